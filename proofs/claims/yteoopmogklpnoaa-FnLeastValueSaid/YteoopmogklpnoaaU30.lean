/-
  Rows of the call's own by their kinds alone: what remains true of them when a cell is overwritten by one of its kind. No statement is proved here.
-/
import Derived.Test.YteoopmogklpnoaaU28
namespace Go.Proofs.Yteoopmogklpnoaa
open Go.RowKit Go.Deep
set_option linter.unusedVariables false
def XTys (w : World) (lo N : Nat) (v : Value) (n : Nat) : Prop := ∃ xs, w.ownsRow lo 25 2 v n xs ∧ n ≤ N ∧ ∀ j, j < n → ∃ a b, xs[j * 2]? = some (.int .i64 a) ∧ xs[j * 2 + 1]? = some (.int .i64 b)
def CKind (w : World) (lo N : Nat) (xs : List Value) (j : Nat) : Prop := ∃ s u m i, xs[j * 3]? = some (.string s) ∧ s.size ≤ maxLen ∧ xs[j * 3 + 1]? = some u ∧ XTys w lo N u m ∧ xs[j * 3 + 2]? = some (.int .i64 i)
def XCts (w : World) (lo N : Nat) (v : Value) (n : Nat) : Prop := ∃ xs, w.ownsRow lo 148 3 v n xs ∧ n ≤ N ∧ ∀ j, j < n → CKind w lo N xs j
def DKind (w : World) (lo N : Nat) (xs : List Value) (j : Nat) : Prop := ∃ s u m, xs[j * 2]? = some (.string s) ∧ s.size ≤ maxLen ∧ xs[j * 2 + 1]? = some u ∧ XCts w lo N u m
def XDas (w : World) (lo N : Nat) (v : Value) (n : Nat) : Prop := ∃ xs, w.ownsRow lo 144 2 v n xs ∧ n ≤ N ∧ ∀ j, j < n → DKind w lo N xs j
section
variable {w w' : World} {lo N N' n : Nat} {v : Value}
theorem XTys.keepT (h : XTys w lo N v n) (hk : KeepT lo T33 w w') (hN : N ≤ N') : XTys w' lo N' v n := by
  obtain ⟨xs, ho, hn, hx⟩ := h
  exact ⟨xs, row_keep ho hk rfl, by omega, hx⟩
theorem CKind.keepT {xs : List Value} {j : Nat} (h : CKind w lo N xs j) (hk : KeepT lo T33 w w') (hN : N ≤ N') : CKind w' lo N' xs j := by
  obtain ⟨s, u, m, i, h1, h2, h3, h4, h5⟩ := h
  exact ⟨s, u, m, i, h1, h2, h3, h4.keepT hk hN, h5⟩
theorem XCts.keepT (h : XCts w lo N v n) (hk : KeepT lo T31 w w') (hN : N ≤ N') : XCts w' lo N' v n := by
  obtain ⟨xs, ho, hn, hx⟩ := h
  exact ⟨xs, row_keep ho hk (.inr rfl), by omega, fun j hj => (hx j hj).keepT hk.of31 hN⟩
theorem DKind.keepT {xs : List Value} {j : Nat} (h : DKind w lo N xs j) (hk : KeepT lo T31 w w') (hN : N ≤ N') : DKind w' lo N' xs j := by
  obtain ⟨s, u, m, h1, h2, h3, h4⟩ := h
  exact ⟨s, u, m, h1, h2, h3, h4.keepT hk hN⟩
theorem XDas.keepT (h : XDas w lo N v n) (hk : KeepT lo T28 w w') (hN : N ≤ N') : XDas w' lo N' v n := by
  obtain ⟨xs, ho, hn, hx⟩ := h
  exact ⟨xs, row_keep ho hk (.inr (.inr rfl)), by omega, fun j hj => (hx j hj).keepT hk.to31 hN⟩
/-- A cell of a row is overwritten. -/
theorem row_set {e : TypeId} {size g i : Nat} {xs : List Value} {u : Value} (h : w.ownsRow lo e size v n xs) : ∃ ys, (w.setCell ⟨g, i, none⟩ u).ownsRow lo e size v n ys ∧ (v.ownBlock = some g → ys = xs.set i u) ∧ (v.ownBlock ≠ some g → ys = xs) := by
  rcases h.2 with ⟨rfl, h0⟩ | ⟨g', cap, cur, rfl, hb, hg, hnc, hcm, hcs, htake⟩
  · exact ⟨xs, ⟨h.1, .inl ⟨rfl, h0⟩⟩, fun e => by simp [Value.ownBlock] at e, fun _ => rfl⟩
  · by_cases e : g' = g
    · subst e
      refine ⟨xs.set i u, ⟨by rw [List.length_set]; exact h.1, .inr ⟨g', cap, cur.setIfInBounds i u, rfl, hb, heap_setCell_same w g' i _ _ u hg, hnc, hcm, by simp [hcs], ?_⟩⟩, fun _ => rfl, fun hne => absurd rfl hne⟩
      rw [Array.toList_setIfInBounds, List.take_set, htake]
    · refine ⟨xs, ⟨h.1, .inr ⟨g', cap, cur, rfl, hb, ?_, hnc, hcm, hcs, htake⟩⟩, fun h1 => absurd (by simpa [Value.ownBlock] using h1) e, fun _ => rfl⟩
      rw [Below.heap_setCell _ _ _ _ (by simpa using e)]
      exact hg
theorem set_at {xs : List Value} {i k : Nat} {u v : Value} (h : xs[k]? = some v) : (xs.set i u)[k]? = if i = k then some u else some v := by
  rw [List.getElem?_set]
  have hk : k < xs.length := by
    rcases Nat.lt_or_ge k xs.length with h1 | h1
    · exact h1
    · rw [List.getElem?_eq_none h1] at h; cases h
  by_cases e : i = k
  · subst e; simp [hk]
  · simp [e, h]
/-- The kinds that a cell of a constructor may be overwritten by. -/
def CNew (w : World) (lo N : Nat) (i : Nat) (u : Value) : Prop := (i % 3 = 0 ∧ ∃ s, u = .string s ∧ s.size ≤ maxLen) ∨ (i % 3 = 1 ∧ ∃ m, XTys w lo N u m) ∨ (i % 3 = 2 ∧ ∃ x, u = .int .i64 x)
def DNew (w : World) (lo N : Nat) (i : Nat) (u : Value) : Prop := (i % 2 = 0 ∧ ∃ s, u = .string s ∧ s.size ≤ maxLen) ∨ (i % 2 = 1 ∧ ∃ m, XCts w lo N u m)
theorem CKind.set {xs : List Value} {i j : Nat} {u : Value} (h : CKind w lo N xs j) (hu : CNew w lo N i u) : CKind w lo N (xs.set i u) j := by
  obtain ⟨s, a, m, x, h1, h2, h3, h4, h5⟩ := h
  have e1 := set_at (i := i) (u := u) h1
  have e2 := set_at (i := i) (u := u) h3
  have e3 := set_at (i := i) (u := u) h5
  rcases hu with ⟨hi, s', rfl, hs⟩ | ⟨hi, m', hm⟩ | ⟨hi, x', rfl⟩
  · rw [if_neg (by omega)] at e2 e3
    by_cases e : i = j * 3
    · rw [if_pos e] at e1; exact ⟨s', a, m, x, e1, hs, e2, h4, e3⟩
    · rw [if_neg e] at e1; exact ⟨s, a, m, x, e1, h2, e2, h4, e3⟩
  · rw [if_neg (by omega)] at e1 e3
    by_cases e : i = j * 3 + 1
    · rw [if_pos e] at e2; exact ⟨s, u, m', x, e1, h2, e2, hm, e3⟩
    · rw [if_neg e] at e2; exact ⟨s, a, m, x, e1, h2, e2, h4, e3⟩
  · rw [if_neg (by omega)] at e1 e2
    by_cases e : i = j * 3 + 2
    · rw [if_pos e] at e3; exact ⟨s, a, m, x', e1, h2, e2, h4, e3⟩
    · rw [if_neg e] at e3; exact ⟨s, a, m, x, e1, h2, e2, h4, e3⟩
theorem DKind.set {xs : List Value} {i j : Nat} {u : Value} (h : DKind w lo N xs j) (hu : DNew w lo N i u) : DKind w lo N (xs.set i u) j := by
  obtain ⟨s, a, m, h1, h2, h3, h4⟩ := h
  have e1 := set_at (i := i) (u := u) h1
  have e2 := set_at (i := i) (u := u) h3
  rcases hu with ⟨hi, s', rfl, hs⟩ | ⟨hi, m', hm⟩
  · rw [if_neg (by omega)] at e2
    by_cases e : i = j * 2
    · rw [if_pos e] at e1; exact ⟨s', a, m, e1, hs, e2, h4⟩
    · rw [if_neg e] at e1; exact ⟨s, a, m, e1, h2, e2, h4⟩
  · rw [if_neg (by omega)] at e1
    by_cases e : i = j * 2 + 1
    · rw [if_pos e] at e2; exact ⟨s, u, m', e1, h2, e2, hm⟩
    · rw [if_neg e] at e2; exact ⟨s, a, m, e1, h2, e2, h4⟩
theorem T33_not31 : ¬ T33 148 := by unfold T33; decide
theorem T31_not28 : ¬ T31 144 := by unfold T31; decide
/-- A cell in a block of constructors is overwritten by one of its kind. -/
theorem XCts.set {g i : Nat} {cs : Array Value} {u : Value} (h : XCts w lo N v n) (hg : w.heap[g]? = some (.cells cs 148 (0, 0))) (hu : CNew w lo N i u) : XCts (w.setCell ⟨g, i, none⟩ u) lo N v n := by
  obtain ⟨xs, ho, hn, hx⟩ := h
  obtain ⟨ys, hy, h1, h2⟩ := row_set (g := g) (i := i) (u := u) ho
  have hk : KeepT lo T33 w (w.setCell ⟨g, i, none⟩ u) := KeepT.set hg T33_not31 i u
  by_cases e : v.ownBlock = some g
  · rw [h1 e] at hy
    exact ⟨_, hy, hn, fun j hj => ((hx j hj).set hu).keepT hk (Nat.le_refl _)⟩
  · rw [h2 e] at hy
    exact ⟨_, hy, hn, fun j hj => (hx j hj).keepT hk (Nat.le_refl _)⟩
theorem XDas.set31 {g i : Nat} {cs : Array Value} {u : Value} (h : XDas w lo N v n) (hg : w.heap[g]? = some (.cells cs 148 (0, 0))) (hu : CNew w lo N i u) : XDas (w.setCell ⟨g, i, none⟩ u) lo N v n := by
  obtain ⟨xs, ho, hn, hx⟩ := h
  obtain ⟨ys, hy, h1, h2⟩ := row_set (g := g) (i := i) (u := u) ho
  have e : v.ownBlock ≠ some g := fun e => own_ne ho hg (by decide) e.symm
  rw [h2 e] at hy
  refine ⟨_, hy, hn, fun j hj => ?_⟩
  obtain ⟨s, a, m, h1, h2, h3, h4⟩ := hx j hj
  exact ⟨s, a, m, h1, h2, h3, h4.set hg hu⟩
/-- A cell in a block of data types is overwritten by one of its kind. -/
theorem XDas.set28 {g i : Nat} {cs : Array Value} {u : Value} (h : XDas w lo N v n) (hg : w.heap[g]? = some (.cells cs 144 (0, 0))) (hu : DNew w lo N i u) : XDas (w.setCell ⟨g, i, none⟩ u) lo N v n := by
  obtain ⟨xs, ho, hn, hx⟩ := h
  obtain ⟨ys, hy, h1, h2⟩ := row_set (g := g) (i := i) (u := u) ho
  have hk : KeepT lo T31 w (w.setCell ⟨g, i, none⟩ u) := KeepT.set hg T31_not28 i u
  by_cases e : v.ownBlock = some g
  · rw [h1 e] at hy
    exact ⟨_, hy, hn, fun j hj => ((hx j hj).set hu).keepT hk (Nat.le_refl _)⟩
  · rw [h2 e] at hy
    exact ⟨_, hy, hn, fun j hj => (hx j hj).keepT hk (Nat.le_refl _)⟩
theorem XTys.nil (w : World) (lo N : Nat) : XTys w lo N (.slice none 0 0) 0 := ⟨[], World.ownsRow_nil _ _ _ _, Nat.zero_le _, fun j h => absurd h (by omega)⟩
theorem XCts.nil (w : World) (lo N : Nat) : XCts w lo N (.slice none 0 0) 0 := ⟨[], World.ownsRow_nil _ _ _ _, Nat.zero_le _, fun j h => absurd h (by omega)⟩
theorem XTys.of_row {xs : List Value} (h : w.ownsRow lo 25 2 v n xs) (hn : n ≤ N) (hx : ∀ j, j < n → ∃ a b, xs[j * 2]? = some (.int .i64 a) ∧ xs[j * 2 + 1]? = some (.int .i64 b)) : XTys w lo N v n := ⟨xs, h, hn, hx⟩
theorem get_left {xs ys : List Value} {k : Nat} {v : Value} (h : xs[k]? = some v) : (xs ++ ys)[k]? = some v := by
  have hk : k < xs.length := by
    rcases Nat.lt_or_ge k xs.length with h1 | h1
    · exact h1
    · rw [List.getElem?_eq_none h1] at h; cases h
  rw [List.getElem?_append_left hk]; exact h
theorem CKind.left {xs ys : List Value} {j : Nat} (h : CKind w lo N xs j) : CKind w lo N (xs ++ ys) j := by
  obtain ⟨s, a, m, x, h1, h2, h3, h4, h5⟩ := h
  exact ⟨s, a, m, x, get_left h1, h2, get_left h3, h4, get_left h5⟩
theorem DKind.left {xs ys : List Value} {j : Nat} (h : DKind w lo N xs j) : DKind w lo N (xs ++ ys) j := by
  obtain ⟨s, a, m, h1, h2, h3, h4⟩ := h
  exact ⟨s, a, m, get_left h1, h2, get_left h3, h4⟩
theorem XTys.app {xs : List Value} {a b : Int} (hx : ∀ j, j < n → ∃ a b, xs[j * 2]? = some (.int .i64 a) ∧ xs[j * 2 + 1]? = some (.int .i64 b)) (hl : xs.length = n * 2) (hr : w.ownsRow lo 25 2 v (n + 1) (xs ++ [.int .i64 a, .int .i64 b])) (hN : n + 1 ≤ N) : XTys w lo N v (n + 1) :=
  ⟨_, hr, hN, fun j hj => by
    by_cases e : j < n
    · obtain ⟨a, b, h1, h2⟩ := hx j e
      exact ⟨a, b, get_left h1, get_left h2⟩
    · have : j = n := by omega
      subst this
      exact ⟨a, b, by rw [List.getElem?_append_right (by omega), hl]; simp, by rw [List.getElem?_append_right (by omega), hl]; simp⟩⟩
theorem XCts.app {xs : List Value} {s : ByteArray} {u : Value} {m : Nat} {i : Int} (hx : ∀ j, j < n → CKind w lo N xs j) (hl : xs.length = n * 3) (hs : s.size ≤ maxLen) (hu : XTys w lo N u m) (hr : w.ownsRow lo 148 3 v (n + 1) (xs ++ [.string s, u, .int .i64 i])) (hN : n + 1 ≤ N) : XCts w lo N v (n + 1) :=
  ⟨_, hr, hN, fun j hj => by
    by_cases e : j < n
    · exact (hx j e).left
    · have : j = n := by omega
      subst this
      exact ⟨s, u, m, i, by rw [List.getElem?_append_right (by omega), hl]; simp, hs, by rw [List.getElem?_append_right (by omega), hl]; simp, hu, by rw [List.getElem?_append_right (by omega), hl]; simp⟩⟩
theorem XDas.app {xs : List Value} {s : ByteArray} {u : Value} {m : Nat} (hx : ∀ j, j < n → DKind w lo N xs j) (hl : xs.length = n * 2) (hs : s.size ≤ maxLen) (hu : XCts w lo N u m) (hr : w.ownsRow lo 144 2 v (n + 1) (xs ++ [.string s, u])) (hN : n + 1 ≤ N) : XDas w lo N v (n + 1) :=
  ⟨_, hr, hN, fun j hj => by
    by_cases e : j < n
    · exact (hx j e).left
    · have : j = n := by omega
      subst this
      exact ⟨s, u, m, by rw [List.getElem?_append_right (by omega), hl]; simp, hs, by rw [List.getElem?_append_right (by omega), hl]; simp, hu⟩⟩
/-- A list of what is there. -/
theorem list_of {α : Type} [Inhabited α] {P : Nat → α → Prop} : ∀ n, (∀ j, j < n → ∃ a, P j a) → ∃ l : List α, l.length = n ∧ ∀ j (h : j < l.length), P j l[j]
  | 0, _ => ⟨[], rfl, fun j h => absurd h (by simp)⟩
  | n + 1, h => by
    obtain ⟨l, hl, hp⟩ := list_of n (fun j hj => h j (by omega))
    obtain ⟨a, ha⟩ := h n (by omega)
    refine ⟨l ++ [a], by simp [hl], fun j hj => ?_⟩
    by_cases e : j < l.length
    · rw [List.getElem_append_left e]; exact hp j e
    · have e' : j = n := by simp at hj; omega
      subst e'
      have : (l ++ [a])[j] = a := by simp [hl]
      rw [this]; exact ha
theorem XTys.list (h : XTys w lo N v n) : ∃ l : List Ty, l.length = n ∧ OTys w lo v l l.length := by
  obtain ⟨xs, ho, hn, hx⟩ := h
  obtain ⟨l, hl, hp⟩ := list_of (P := fun j (t : Ty) => xs[j * 2]? = some (.int .i64 t.data) ∧ xs[j * 2 + 1]? = some (.int .i64 t.index)) n (fun j hj => by
    obtain ⟨a, b, h1, h2⟩ := hx j hj
    exact ⟨⟨a, b⟩, h1, h2⟩)
  exact ⟨l, hl, xs, by rw [hl]; exact ho, fun j hj _ => hp j hj⟩
def SmallC (N : Nat) (cs : List Ct) : Prop := cs.length ≤ N ∧ ∀ c ∈ cs, c.args.length ≤ N
def SmallD (N : Nat) (l : List Da) : Prop := l.length ≤ N ∧ ∀ d ∈ l, SmallC N d.ctors
theorem XCts.list (h : XCts w lo N v n) (hN : N ≤ maxLen) : ∃ cs : List Ct, cs.length = n ∧ OCts w lo v cs ∧ SmallC N cs := by
  obtain ⟨xs, ho, hn, hx⟩ := h
  obtain ⟨l, hl, hp⟩ := list_of (P := fun j (c : Ct) => (∃ v, xs[j * 3]? = some (.string c.name) ∧ xs[j * 3 + 1]? = some v ∧ xs[j * 3 + 2]? = some (.int .i64 c.index) ∧ c.name.size ≤ maxLen ∧ c.args.length ≤ maxLen ∧ OTys w lo v c.args c.args.length) ∧ c.args.length ≤ N) n (fun j hj => by
    obtain ⟨s, u, m, i, h1, h2, h3, h4, h5⟩ := hx j hj
    obtain ⟨L, hL, hO⟩ := h4.list
    have hm : m ≤ N := h4.choose_spec.2.1
    exact ⟨⟨s, L, i⟩, ⟨u, h1, h3, h5, h2, by simp only; omega, hO⟩, by simp only; omega⟩)
  refine ⟨l, hl, ⟨xs, by rw [hl]; exact ho, fun j hj => (hp j hj).1⟩, by omega, fun c hc => ?_⟩
  obtain ⟨j, hj, rfl⟩ := List.getElem_of_mem hc
  exact (hp j hj).2
theorem XDas.list (h : XDas w lo N v n) (hN : N ≤ maxLen) : ∃ l : List Da, l.length = n ∧ ODas w lo v l ∧ SmallD N l := by
  obtain ⟨xs, ho, hn, hx⟩ := h
  obtain ⟨l, hl, hp⟩ := list_of (P := fun j (d : Da) => (∃ v, xs[j * 2]? = some (.string d.name) ∧ xs[j * 2 + 1]? = some v ∧ d.name.size ≤ maxLen ∧ d.ctors.length ≤ maxLen ∧ OCts w lo v d.ctors) ∧ SmallC N d.ctors) n (fun j hj => by
    obtain ⟨s, u, m, h1, h2, h3, h4⟩ := hx j hj
    obtain ⟨L, hL, hO, hS⟩ := h4.list hN
    have hm : m ≤ N := h4.choose_spec.2.1
    exact ⟨⟨s, L⟩, ⟨u, h1, h3, h2, by simp only; omega, hO⟩, hS⟩)
  refine ⟨l, hl, ⟨xs, by rw [hl]; exact ho, fun j hj => (hp j hj).1⟩, by omega, fun c hc => ?_⟩
  obtain ⟨j, hj, rfl⟩ := List.getElem_of_mem hc
  exact (hp j hj).2
theorem XDas.lies (h : XDas w lo N v n) (hN : N ≤ maxLen) : ∃ l : List Da, l.length = n ∧ Lies w lo v l ∧ SmallD N l := by
  obtain ⟨l, hl, ho, hs⟩ := h.list hN
  exact ⟨l, hl, ho.lies (by have := hs.1; omega), hs⟩
theorem XTys.lower {lo' : Nat} (h : XTys w lo N v n) (hl : lo' ≤ lo) : XTys w lo' N v n := by
  obtain ⟨xs, ho, hn, hx⟩ := h
  exact ⟨xs, row_lower ho hl, hn, hx⟩
theorem XCts.lower {lo' : Nat} (h : XCts w lo N v n) (hl : lo' ≤ lo) : XCts w lo' N v n := by
  obtain ⟨xs, ho, hn, hx⟩ := h
  refine ⟨xs, row_lower ho hl, hn, fun j hj => ?_⟩
  obtain ⟨s, u, m, i, h1, h2, h3, h4, h5⟩ := hx j hj
  exact ⟨s, u, m, i, h1, h2, h3, h4.lower hl, h5⟩
theorem XDas.lower {lo' : Nat} (h : XDas w lo N v n) (hl : lo' ≤ lo) : XDas w lo' N v n := by
  obtain ⟨xs, ho, hn, hx⟩ := h
  refine ⟨xs, row_lower ho hl, hn, fun j hj => ?_⟩
  obtain ⟨s, u, m, h1, h2, h3, h4⟩ := hx j hj
  exact ⟨s, u, m, h1, h2, h3, h4.lower hl⟩
theorem row_form {e : TypeId} {size : Nat} {xs : List Value} (h : w.ownsRow lo e size v n xs) : ∃ A cap, v = .slice A n cap := by
  rcases h.2 with ⟨rfl, rfl⟩ | ⟨g, cap, cur, rfl, _⟩
  · exact ⟨none, 0, rfl⟩
  · exact ⟨_, _, rfl⟩
theorem XTys.form (h : XTys w lo N v n) : ∃ A cap, v = .slice A n cap := row_form h.choose_spec.1
theorem XCts.form (h : XCts w lo N v n) : ∃ A cap, v = .slice A n cap := row_form h.choose_spec.1
theorem XDas.form (h : XDas w lo N v n) : ∃ A cap, v = .slice A n cap := row_form h.choose_spec.1
theorem row_at {e : TypeId} {size : Nat} {xs : List Value} (h : w.ownsRow lo e size v n xs) (hn : 0 < n) : ∃ g cap, v = .slice (some ⟨g, 0, none⟩) n cap ∧ lo ≤ g ∧ g < w.heap.size ∧ (∃ cs, w.heap[g]? = some (.cells cs e (0, 0))) ∧ ∀ j u, xs[j]? = some u → w.cell? ⟨g, j, none⟩ = some u := by
  rcases h.2 with ⟨rfl, h0⟩ | ⟨g, cap, cur, rfl, hb, hg, hnc, hcm, hcs, htake⟩
  · omega
  · refine ⟨g, cap, rfl, hb, heap_lt hg, ⟨cur, hg⟩, fun j u hu => ?_⟩
    rw [cell_of_blk hg j]
    rw [← htake, List.getElem?_take] at hu
    split at hu
    · simpa using hu
    · cases hu
theorem XDas.at_ {k : Nat} (h : XDas w lo N v n) (hk : k < n) : ∃ g cap s u m, v = .slice (some ⟨g, 0, none⟩) n cap ∧ lo ≤ g ∧ g < w.heap.size ∧ (∃ cs, w.heap[g]? = some (.cells cs 144 (0, 0))) ∧ w.cell? ⟨g, k * 2, none⟩ = some (.string s) ∧ s.size ≤ maxLen ∧ w.cell? ⟨g, k * 2 + 1, none⟩ = some u ∧ XCts w lo N u m := by
  obtain ⟨xs, ho, hn, hx⟩ := h
  obtain ⟨g, cap, e, hl, hg, ht, hc⟩ := row_at ho (by omega)
  obtain ⟨s, u, m, h1, h2, h3, h4⟩ := hx k hk
  exact ⟨g, cap, s, u, m, e, hl, hg, ht, hc _ _ h1, h2, hc _ _ h3, h4⟩
theorem XCts.at_ {k : Nat} (h : XCts w lo N v n) (hk : k < n) : ∃ g cap s u m i, v = .slice (some ⟨g, 0, none⟩) n cap ∧ lo ≤ g ∧ g < w.heap.size ∧ (∃ cs, w.heap[g]? = some (.cells cs 148 (0, 0))) ∧ w.cell? ⟨g, k * 3, none⟩ = some (.string s) ∧ s.size ≤ maxLen ∧ w.cell? ⟨g, k * 3 + 1, none⟩ = some u ∧ XTys w lo N u m ∧ w.cell? ⟨g, k * 3 + 2, none⟩ = some (.int .i64 i) := by
  obtain ⟨xs, ho, hn, hx⟩ := h
  obtain ⟨g, cap, e, hl, hg, ht, hc⟩ := row_at ho (by omega)
  obtain ⟨s, u, m, i, h1, h2, h3, h4, h5⟩ := hx k hk
  exact ⟨g, cap, s, u, m, i, e, hl, hg, ht, hc _ _ h1, h2, hc _ _ h3, h4, hc _ _ h5⟩
theorem OTys.x {l : List Ty} (h : OTys w lo v l l.length) (hs : l.length ≤ N) : XTys w lo N v l.length := by
  obtain ⟨xs, ho, hx⟩ := h
  exact ⟨xs, ho, hs, fun j hj => ⟨_, _, (hx j hj hj).1, (hx j hj hj).2⟩⟩
theorem OCts.x {cs : List Ct} (h : OCts w lo v cs) (hs : SmallC N cs) : XCts w lo N v cs.length := by
  obtain ⟨xs, ho, hx⟩ := h
  refine ⟨xs, ho, hs.1, fun j hj => ?_⟩
  obtain ⟨u, h1, h2, h3, h4, h5, h6⟩ := hx j hj
  exact ⟨_, u, _, _, h1, h4, h2, h6.x (hs.2 _ (List.getElem_mem hj)), h3⟩
theorem ODas.x {l : List Da} (h : ODas w lo v l) (hs : SmallD N l) : XDas w lo N v l.length := by
  obtain ⟨xs, ho, hx⟩ := h
  refine ⟨xs, ho, hs.1, fun j hj => ?_⟩
  obtain ⟨u, h1, h2, h3, h4, h5⟩ := hx j hj
  exact ⟨_, u, _, h1, h3, h2, h5.x (hs.2 _ (List.getElem_mem hj))⟩
end
end Go.Proofs.Yteoopmogklpnoaa
