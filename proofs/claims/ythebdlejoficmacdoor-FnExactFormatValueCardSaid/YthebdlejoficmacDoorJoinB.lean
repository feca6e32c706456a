/-
  Texts with something between them, digits, a name with texts in brackets: plain mathematics, strings.Join and the program's function. No statement is proved here.
-/
import Derived.Test.YthebdlejoficmacDoorText
import Derived.Test.YthebdlejoficmacDoorCtors3
import Derived.Test.YthebdlejoficmacDoorTypeValid
import Derived.Test.YthebdlejoficmacDoorShelf
namespace Go.Proofs.YthebdlejoficmacDoor
open Go.RowKit Go.Deep
set_option maxRecDepth 100000
set_option linter.unusedVariables false

theorem ret_str {a b : ByteArray} (h : a = b) : Ending.returned (.string a) = .returned (.string b) := by rw [h]
/-- A digit. -/
def dig (n : Int) : ByteArray := one (48 + n) ++ ⟨#[]⟩
theorem dig_size (n : Int) : (dig n).size = 1 := rfl
theorem dec_any (n : Int) (w : World) (h0 : 0 ≤ n) (h9 : n ≤ 9) :
    Calls Tryd.prog 26 #[.int .i64 n] w fun e w' => e = .returned (.string (dig n)) ∧ Below w.heap.size w w' := by
  have hcv := conv_one w (48 + n)
  have hos := one_size (48 + n)
  have HB : Hid (∀ o : Obj, Below w.heap.size w (w.alloc o)) := fun o => (Below.refl _ _).alloc (Nat.le_refl _) _
  have HD : Hid (dig n = one (48 + n) ++ ⟨#[]⟩) := rfl
  go_enter Tryd.func26, Tryd.ntmps26
  go_wp2_with fail
  go_loop [0, 3] (fun q t => q = .int .i64 n ∧ t = .string ⟨#[]⟩) (fun _ _ => 0)
  case atStart => exact ⟨rfl, rfl⟩
  case round =>
    obtain ⟨rfl, rfl⟩ := hrel
    go_wp2_with fail
    go_ret
    exact ⟨ret_str HD.out.symm, HB.out _⟩

theorem dig_small {n : Nat} (h : n < 10) : (⟨(Lib.decDigits n).toArray⟩ : ByteArray) = dig n := by
  rcases (by omega : n = 0 ∨ n = 1 ∨ n = 2 ∨ n = 3 ∨ n = 4 ∨ n = 5 ∨ n = 6 ∨ n = 7 ∨ n = 8 ∨ n = 9) with rfl | rfl | rfl | rfl | rfl | rfl | rfl | rfl | rfl | rfl <;> (first | rfl | (unfold Lib.decDigits; rfl) | decide +kernel)
theorem ba_ext {a b : ByteArray} (h : a.data.toList = b.data.toList) : a = b := by
  cases a; cases b
  simp only at h
  congr 1
  exact Array.ext' h
theorem ba_append (a b : ByteArray) : (a ++ b).data.toList = a.data.toList ++ b.data.toList := by simp
def joinB (ts : List ByteArray) (sep : ByteArray) : ByteArray := ⟨(Lib.join (ts.map (·.data.toList)) sep.data.toList).toArray⟩
theorem joinB_list (ts : List ByteArray) (sep : ByteArray) : (joinB ts sep).data.toList = Lib.join (ts.map (·.data.toList)) sep.data.toList := by simp [joinB]
theorem joinB_nil (sep : ByteArray) : joinB [] sep = ⟨#[]⟩ := rfl
theorem joinB_one (x sep : ByteArray) : joinB [x] sep = x := ba_ext (by rw [joinB_list]; exact Lib.join_one _ _)
theorem join_snoc (ts : List (List UInt8)) (y sep : List UInt8) (h : ts ≠ []) : Lib.join (ts ++ [y]) sep = Lib.join ts sep ++ (sep ++ y) := by
  cases ts with
  | nil => exact absurd rfl h
  | cons x r =>
    rw [List.cons_append, Lib.join_cons, Lib.join_cons]
    simp [Lib.joinTail, List.append_assoc]
theorem joinB_snoc (ts : List ByteArray) (y sep : ByteArray) (h : ts ≠ []) : joinB (ts ++ [y]) sep = (joinB ts sep ++ sep) ++ y := by
  refine ba_ext ?_
  rw [ba_append, ba_append, joinB_list, joinB_list, List.map_append, List.map_cons, List.map_nil, join_snoc _ _ _ (by simpa using h), List.append_assoc]
theorem joinB_size (sep : ByteArray) (m : Nat) : ∀ ts : List ByteArray, (∀ t ∈ ts, t.size ≤ m) → (joinB ts sep).size ≤ ts.length * (m + sep.size) := by
  have key : ∀ ts : List ByteArray, (∀ t ∈ ts, t.size ≤ m) → (Lib.join (ts.map (·.data.toList)) sep.data.toList).length ≤ ts.length * (m + sep.size) := by
    intro ts h
    cases ts with
    | nil => simp [Lib.join_nil]
    | cons x r =>
      rw [List.map_cons, Lib.join_cons, List.length_append]
      have hx := h x (List.mem_cons_self)
      have hr : (Lib.joinTail sep.data.toList (r.map (·.data.toList))).length ≤ r.length * (m + sep.size) := by
        have h' : ∀ t ∈ r, t.size ≤ m := fun t ht => h t (List.mem_cons_of_mem _ ht)
        clear h hx
        induction r with
        | nil => simp [Lib.joinTail]
        | cons y r ih =>
          have h1 := ih (fun t ht => h' t (List.mem_cons_of_mem _ ht))
          have h2 := h' y (List.mem_cons_self)
          have e : Lib.joinTail sep.data.toList ((y :: r).map (·.data.toList)) = (sep.data.toList ++ y.data.toList) ++ Lib.joinTail sep.data.toList (r.map (·.data.toList)) := by simp [Lib.joinTail]
          rw [e, List.length_append, List.length_append, List.length_cons, Nat.add_mul, Nat.one_mul]
          have e1 : sep.data.toList.length = sep.size := by simp
          have e2 : y.data.toList.length = y.size := by simp
          omega
      have e2 : x.data.toList.length = x.size := by simp
      rw [List.length_cons, Nat.add_mul, Nat.one_mul]
      omega
  intro ts h
  have e : (joinB ts sep).size = (Lib.join (ts.map (·.data.toList)) sep.data.toList).length := by simp [joinB, ByteArray.size]
  rw [e]
  exact key ts h

/-- What the first k rounds have left in a row of texts. -/
def StRow (ts : List ByteArray) (xs : List Value) (k : Nat) : Prop := ∀ j (h : j < ts.length), j < k → xs[j]? = some (.string ts[j])
theorem StRow.zero (ts : List ByteArray) (xs : List Value) : StRow ts xs 0 := fun j _ h => absurd h (by omega)
theorem StRow.step {ts : List ByteArray} {xs : List Value} {k : Nat} (h : StRow ts xs k) (hk : k < ts.length) (hx : xs.length = ts.length) : StRow ts (xs.set k (.string ts[k])) (k + 1) := by
  intro j hj hjk
  by_cases e : j = k
  · subst e
    rw [List.getElem?_set_self (by omega)]
  · rw [List.getElem?_set_ne (by omega)]
    exact h j hj (by omega)
/-- strings.Join of a row of the call's own. -/
theorem join_row (ts : List ByteArray) (sep : ByteArray) (g lo cap : Nat) (xs : List Value) (w : World) (hown : w.ownsRow lo 9 1 (.slice (some ⟨g, 0, none⟩) ts.length cap) ts.length xs) (hrow : StRow ts xs ts.length) (hcap : ts.length ≤ cap) (hn : ts.length ≤ 1000) (hm : ∀ t ∈ ts, t.size ≤ 600000) (hsep : sep.size ≤ 10) :
    Calls Tryd.prog 47 #[.slice (some ⟨g, 0, none⟩) ts.length cap, .string sep] w fun e w' => e = .returned (.string (joinB ts sep)) ∧ Below w.heap.size w w' := by
  have hz := joinB_size sep 600000 ts hm
  have hz2 : ts.length * (600000 + sep.size) ≤ 1000 * (600000 + 10) := Nat.mul_le_mul hn (by omega)
  have e : (joinB ts sep).size = (Lib.join (ts.map (·.data.toList)) sep.data.toList).length := by simp [joinB, ByteArray.size]
  refine (Tryd.strings_Join g 0 cap ts sep w ?_ (own_lt hown) (by omega) hcap (by omega)).mono ?_
  · intro j x hj
    obtain ⟨hjl, rfl⟩ := List.getElem?_eq_some_iff.1 hj
    have := hown.cellAt j (by omega)
    rw [Nat.zero_add, this]
    exact hrow j hjl hjl
  · rintro e w1 ⟨rfl, hb⟩
    exact ⟨rfl, hb⟩

/-- A name with texts in brackets behind it. -/
def twT (nm : ByteArray) (ts : List ByteArray) : ByteArray := if ts.length = 0 then nm else ((nm ++ ⟨#[40]⟩) ++ joinB ts ⟨#[44]⟩) ++ ⟨#[41]⟩
theorem twT_none {nm : ByteArray} {ts : List ByteArray} (h : ts.length = 0) : twT nm ts = nm := if_pos h
theorem twT_some {nm : ByteArray} {ts : List ByteArray} (h : ¬ ts.length = 0) : twT nm ts = ((nm ++ ⟨#[40]⟩) ++ joinB ts ⟨#[44]⟩) ++ ⟨#[41]⟩ := if_neg h
theorem twa_any (nm : ByteArray) (ts : List ByteArray) (g lo cap : Nat) (xs : List Value) (w : World) (hown : w.ownsRow lo 9 1 (.slice (some ⟨g, 0, none⟩) ts.length cap) ts.length xs) (hrow : StRow ts xs ts.length) (hcap : ts.length ≤ cap) (hn : ts.length ≤ 3) (hm : ∀ t ∈ ts, t.size ≤ 600000) (hnm : nm.size ≤ 100) :
    Calls Tryd.prog 33 #[.string nm, .slice (some ⟨g, 0, none⟩) ts.length cap] w fun e w' => e = .returned (.string (twT nm ts)) ∧ Below w.heap.size w w' := by
  by_cases h : ts.length = 0
  · have q := ieq_t (show (ts.length : Int) = 0 by omega)
    have HT := Lib.hid (twT_none (nm := nm) h)
    clear h hown hrow hm
    go_enter Tryd.func33, Tryd.ntmps33
    go_wp2_with fail
    go_ret
    exact ⟨ret_str HT.out.symm, Below.refl _ _⟩
  · have q := ieq_f (show ¬ (ts.length : Int) = 0 by omega)
    have HT := Lib.hid (twT_some (nm := nm) h)
    have HO := Lib.hid hown
    have HR := Lib.hid hrow
    have HM : Hid (∀ t ∈ ts, t.size ≤ 600000) := hm
    have hz := joinB_size ⟨#[44]⟩ 600000 ts hm
    have hz2 : ts.length * (600000 + (ByteArray.mk #[44]).size) ≤ 3 * (600000 + 1) := Nat.mul_le_mul hn (Nat.le_refl _)
    have hz3 : (joinB ts ⟨#[44]⟩).size ≤ 1800003 := by omega
    generalize hu : joinB ts ⟨#[44]⟩ = u at hz3 HT
    have HU := Lib.hid hu
    clear h hown hrow hm hz hz2 hu
    go_enter Tryd.func33, Tryd.ntmps33
    go_wp2_with fail
    refine (join_row ts ⟨#[44]⟩ g lo cap xs _ HO.out HR.out hcap (by omega) HM.out (by decide)).mono ?_
    rw [HU.out]
    rintro e w1 ⟨rfl, hb⟩
    go_wp2_with fail
    go_ret
    exact ⟨ret_str HT.out.symm, hb⟩

end Go.Proofs.YthebdlejoficmacDoor
