/-
  Rows of constructors and of data types of the call's own, by what they hold and by their kinds; worlds that read the same while nothing from a block on turns. No statement is proved here.
-/
import Derived.Test.YtakhobhmplneeaaY12
import Derived.Test.YtakhobhmplneeaaY13
import Derived.Test.YtakhobhmplneeaaY14
import Derived.Test.YtakhobhmplneeaaY15
import Derived.Test.YtakhobhmplneeaaY16
namespace Go.Proofs.Ytakhobhmplneeaa
open Go.RowKit Go.Deep
set_option linter.unusedVariables false
/-- From block lo on, the blocks of the types T are as they were. -/
def KeepT (lo : Nat) (T : TypeId → Prop) (w w' : World) : Prop := ∀ (b : Nat) (ds : Array Value) (t : TypeId), lo ≤ b → T t → w.heap[b]? = some (Obj.cells ds t (0, 0)) → w'.heap[b]? = w.heap[b]?
def T33 (t : TypeId) : Prop := t = 25
def T31 (t : TypeId) : Prop := t = 25 ∨ t = 105
def T28 (t : TypeId) : Prop := t = 25 ∨ t = 105 ∨ t = 103
theorem KeepT.less {lo : Nat} {T S : TypeId → Prop} {w w' : World} (h : KeepT lo T w w') (hs : ∀ t, S t → T t) : KeepT lo S w w' := fun b ds t hl ht hb => h b ds t hl (hs t ht) hb
theorem KeepT.up {lo lo' : Nat} {T : TypeId → Prop} {w w' : World} (h : KeepT lo T w w') (hl : lo ≤ lo') : KeepT lo' T w w' := fun b ds t hl' ht hb => h b ds t (Nat.le_trans hl hl') ht hb
theorem KeepT.to31 {lo : Nat} {w w' : World} (h : KeepT lo T28 w w') : KeepT lo T31 w w' := h.less fun _ e => e.elim .inl fun e => .inr (.inl e)
theorem KeepT.of31 {lo : Nat} {w w' : World} (h : KeepT lo T31 w w') : KeepT lo T33 w w' := h.less fun _ e => .inl e
theorem KeepT.below {w w' : World} (lo : Nat) (T : TypeId → Prop) (h : Below w.heap.size w w') : KeepT lo T w w' := fun b ds t _ _ hb => h.block b (heap_lt hb)
theorem KeepT.alloc (lo : Nat) (T : TypeId → Prop) (w : World) (o : Obj) : KeepT lo T w (w.alloc o) := fun b ds t _ _ hb => Below.heap_alloc _ _ _ (heap_lt hb)
theorem KeepT.trans {lo : Nat} {T : TypeId → Prop} {a b c : World} (h : KeepT lo T a b) (k : KeepT lo T b c) : KeepT lo T a c := fun g ds t hl ht hg => by
  have h1 := h g ds t hl ht hg
  exact (k g ds t hl ht (h1.trans hg)).trans h1
theorem KeepT.set {lo g : Nat} {T : TypeId → Prop} {w : World} {cs : Array Value} {t : TypeId} (hg : w.heap[g]? = some (.cells cs t (0, 0))) (hn : ¬ T t) (i : Nat) (u : Value) : KeepT lo T w (w.setCell ⟨g, i, none⟩ u) := fun b ds s hl hs hb => by
  refine Below.heap_setCell _ _ _ _ ?_
  intro e
  have e' : b = g := e
  subst e'
  rw [hg] at hb
  injection hb with hb
  injection hb with _ e
  exact hn (e ▸ hs)
theorem KeepT.grown {lo : Nat} {T : TypeId → Prop} {w w' : World} {v : Value} {size n : Nat} {e : TypeId} {xs : List Value} {l0 : Nat} (ho : w.ownsRow l0 e size v n xs) (hn : ¬ T e) (hg : w.grownBy w' v.ownBlock) : KeepT lo T w w' := fun b ds s hl hs hb => by
  refine hg.block b (heap_lt hb) ?_
  intro he
  rcases ho.2 with ⟨rfl, _⟩ | ⟨g, cap, cur, rfl, _, hgg, _⟩
  · simp [Value.ownBlock] at he
  · have : b = g := by simpa [Value.ownBlock] using he
    subst this
    rw [hgg] at hb
    injection hb with hb
    injection hb with _ e
    exact hn (e ▸ hs)
theorem row_keep {w w' : World} {lo size n : Nat} {e : TypeId} {v : Value} {xs : List Value} {T : TypeId → Prop} (h : w.ownsRow lo e size v n xs) (hk : KeepT lo T w w') (hT : T e) : w'.ownsRow lo e size v n xs := by
  refine ⟨h.1, ?_⟩
  rcases h.2 with h0 | ⟨g, cap, cur, a1, a2, a3, a4⟩
  · exact .inl h0
  · exact .inr ⟨g, cap, cur, a1, a2, (hk g cur e a2 hT a3).trans a3, a4⟩
theorem row_lower {w : World} {lo lo' size n : Nat} {e : TypeId} {v : Value} {xs : List Value} (h : w.ownsRow lo e size v n xs) (hl : lo' ≤ lo) : w.ownsRow lo' e size v n xs := by
  refine ⟨h.1, ?_⟩
  rcases h.2 with h0 | ⟨g, cap, cur, a1, a2, a3⟩
  · exact .inl h0
  · exact .inr ⟨g, cap, cur, a1, by omega, a3⟩
theorem OTys.keepT {w w' : World} {lo : Nat} {v : Value} {l : List Ty} {k : Nat} (h : OTys w lo v l k) (hk : KeepT lo T33 w w') : OTys w' lo v l k := by
  obtain ⟨xs, ho, hx⟩ := h
  exact ⟨xs, row_keep ho hk rfl, hx⟩

/-! What a row holds. -/
def CRow (w : World) (lo : Nat) (cs : List Ct) (xs : List Value) : Prop :=
  ∀ j (h : j < cs.length), ∃ v, xs[j * 3]? = some (.string cs[j].name) ∧ xs[j * 3 + 1]? = some v ∧ xs[j * 3 + 2]? = some (.int .i64 cs[j].index) ∧ cs[j].name.size ≤ maxLen ∧ cs[j].args.length ≤ maxLen ∧ OTys w lo v cs[j].args cs[j].args.length
def OCts (w : World) (lo : Nat) (v : Value) (cs : List Ct) : Prop := ∃ xs, w.ownsRow lo 105 3 v cs.length xs ∧ CRow w lo cs xs
def DRow (w : World) (lo : Nat) (l : List Da) (xs : List Value) : Prop :=
  ∀ j (h : j < l.length), ∃ v, xs[j * 2]? = some (.string l[j].name) ∧ xs[j * 2 + 1]? = some v ∧ l[j].name.size ≤ maxLen ∧ l[j].ctors.length ≤ maxLen ∧ OCts w lo v l[j].ctors
def ODas (w : World) (lo : Nat) (v : Value) (l : List Da) : Prop := ∃ xs, w.ownsRow lo 103 2 v l.length xs ∧ DRow w lo l xs
section
variable {w w' : World} {lo lo' : Nat} {v : Value}
theorem CRow.keepT {cs : List Ct} {xs : List Value} (h : CRow w lo cs xs) (hk : KeepT lo T33 w w') : CRow w' lo cs xs := fun j hj => by
  obtain ⟨u, h1, h2, h3, h4, h5, h6⟩ := h j hj
  exact ⟨u, h1, h2, h3, h4, h5, h6.keepT hk⟩
theorem OCts.keepT {cs : List Ct} (h : OCts w lo v cs) (hk : KeepT lo T31 w w') : OCts w' lo v cs := by
  obtain ⟨xs, ho, hx⟩ := h
  exact ⟨xs, row_keep ho hk (.inr rfl), hx.keepT hk.of31⟩
theorem DRow.keepT {l : List Da} {xs : List Value} (h : DRow w lo l xs) (hk : KeepT lo T31 w w') : DRow w' lo l xs := fun j hj => by
  obtain ⟨u, h1, h2, h3, h4, h5⟩ := h j hj
  exact ⟨u, h1, h2, h3, h4, h5.keepT hk⟩
theorem ODas.keepT {l : List Da} (h : ODas w lo v l) (hk : KeepT lo T28 w w') : ODas w' lo v l := by
  obtain ⟨xs, ho, hx⟩ := h
  exact ⟨xs, row_keep ho hk (.inr (.inr rfl)), hx.keepT hk.to31⟩
theorem OCts.lower {cs : List Ct} (h : OCts w lo v cs) (hl : lo' ≤ lo) : OCts w lo' v cs := by
  obtain ⟨xs, ho, hx⟩ := h
  refine ⟨xs, row_lower ho hl, fun j hj => ?_⟩
  obtain ⟨u, h1, h2, h3, h4, h5, h6⟩ := hx j hj
  exact ⟨u, h1, h2, h3, h4, h5, h6.lower hl⟩
theorem ODas.lower {l : List Da} (h : ODas w lo v l) (hl : lo' ≤ lo) : ODas w lo' v l := by
  obtain ⟨xs, ho, hx⟩ := h
  refine ⟨xs, row_lower ho hl, fun j hj => ?_⟩
  obtain ⟨u, h1, h2, h3, h4, h5⟩ := hx j hj
  exact ⟨u, h1, h2, h3, h4, h5.lower hl⟩
theorem CRow.nil (w : World) (lo : Nat) (xs : List Value) : CRow w lo [] xs := fun j h => absurd h (by simp)
theorem DRow.nil (w : World) (lo : Nat) (xs : List Value) : DRow w lo [] xs := fun j h => absurd h (by simp)
theorem OCts.nil (w : World) (lo : Nat) : OCts w lo (.slice none 0 0) [] := ⟨[], World.ownsRow_nil _ _ _ _, CRow.nil _ _ _⟩
theorem CRow.app {cs : List Ct} {xs : List Value} {c : Ct} {u : Value} (h : CRow w lo cs xs) (hx : xs.length = cs.length * 3) (hn : c.name.size ≤ maxLen) (ha : c.args.length ≤ maxLen) (ho : OTys w lo u c.args c.args.length) :
    CRow w lo (cs ++ [c]) (xs ++ [.string c.name, u, .int .i64 c.index]) := fun j hj => by
  by_cases e : j < cs.length
  · obtain ⟨u', h1, h2, h3, h4, h5, h6⟩ := h j e
    have e1 : (cs ++ [c])[j] = cs[j] := List.getElem_append_left e
    rw [e1]
    exact ⟨u', by rw [List.getElem?_append_left (by omega)]; exact h1, by rw [List.getElem?_append_left (by omega)]; exact h2, by rw [List.getElem?_append_left (by omega)]; exact h3, h4, h5, h6⟩
  · have ej : j = cs.length := by simp at hj; omega
    subst ej
    have e1 : (cs ++ [c])[cs.length] = c := by simp
    rw [e1]
    refine ⟨u, ?_, ?_, ?_, hn, ha, ho⟩
    · rw [List.getElem?_append_right (by omega), hx]; simp
    · rw [List.getElem?_append_right (by omega), hx]; simp
    · rw [List.getElem?_append_right (by omega), hx]; simp
theorem OCts.app {cs : List Ct} {xs : List Value} {c : Ct} {u : Value} (h : CRow w lo cs xs) (hx : xs.length = cs.length * 3) (hn : c.name.size ≤ maxLen) (ha : c.args.length ≤ maxLen) (ho : OTys w lo u c.args c.args.length)
    (hr : w.ownsRow lo 105 3 v (cs.length + 1) (xs ++ [.string c.name, u, .int .i64 c.index])) : OCts w lo v (cs ++ [c]) :=
  ⟨_, by rw [List.length_append]; exact hr, h.app hx hn ha ho⟩
theorem DRow.app {l : List Da} {xs : List Value} {d : Da} {u : Value} (h : DRow w lo l xs) (hx : xs.length = l.length * 2) (hn : d.name.size ≤ maxLen) (ha : d.ctors.length ≤ maxLen) (ho : OCts w lo u d.ctors) :
    DRow w lo (l ++ [d]) (xs ++ [.string d.name, u]) := fun j hj => by
  by_cases e : j < l.length
  · obtain ⟨u', h1, h2, h4, h5, h6⟩ := h j e
    have e1 : (l ++ [d])[j] = l[j] := List.getElem_append_left e
    rw [e1]
    exact ⟨u', by rw [List.getElem?_append_left (by omega)]; exact h1, by rw [List.getElem?_append_left (by omega)]; exact h2, h4, h5, h6⟩
  · have ej : j = l.length := by simp at hj; omega
    subst ej
    have e1 : (l ++ [d])[l.length] = d := by simp
    rw [e1]
    refine ⟨u, ?_, ?_, hn, ha, ho⟩
    · rw [List.getElem?_append_right (by omega), hx]; simp
    · rw [List.getElem?_append_right (by omega), hx]; simp
theorem ODas.app {l : List Da} {xs : List Value} {d : Da} {u : Value} (h : DRow w lo l xs) (hx : xs.length = l.length * 2) (hn : d.name.size ≤ maxLen) (ha : d.ctors.length ≤ maxLen) (ho : OCts w lo u d.ctors)
    (hr : w.ownsRow lo 103 2 v (l.length + 1) (xs ++ [.string d.name, u])) : ODas w lo v (l ++ [d]) :=
  ⟨_, by rw [List.length_append]; exact hr, h.app hx hn ha ho⟩
theorem OCts.form {cs : List Ct} (h : OCts w lo v cs) (hl : cs.length ≤ maxLen) : ∃ A cap, v = .slice A cs.length cap ∧ RCts w w.heap.size A cs := by
  obtain ⟨xs, ho, hx⟩ := h
  rcases ho.2 with ⟨rfl, h0⟩ | ⟨g, cap, cur, rfl, hb, hg, hnc, hcm, hcs, htake⟩
  · exact ⟨none, 0, by rw [h0], hl, fun k hk => absurd hk (by omega)⟩
  · refine ⟨_, cap, rfl, hl, fun k hk => ⟨g, 0, rfl, own_lt ho, ?_⟩⟩
    obtain ⟨u, h1, h2, h3, h4, h5, h6⟩ := hx k hk
    obtain ⟨A, cp, rfl, hr⟩ := h6.form h5
    refine ⟨A, cp, ?_, ?_, ?_, h4, hr⟩
    · rw [Nat.zero_add, ho.cellAt (k * 3) (by omega)]; exact h1
    · rw [Nat.zero_add, ho.cellAt (k * 3 + 1) (by omega)]; exact h2
    · rw [Nat.zero_add, ho.cellAt (k * 3 + 2) (by omega)]; exact h3
theorem ODas.form {l : List Da} (h : ODas w lo v l) (hl : l.length ≤ maxLen) : ∃ A cap, v = .slice A l.length cap ∧ RDas w w.heap.size A l := by
  obtain ⟨xs, ho, hx⟩ := h
  rcases ho.2 with ⟨rfl, h0⟩ | ⟨g, cap, cur, rfl, hb, hg, hnc, hcm, hcs, htake⟩
  · exact ⟨none, 0, by rw [h0], hl, fun k hk => absurd hk (by omega)⟩
  · refine ⟨_, cap, rfl, hl, fun k hk => ⟨g, 0, rfl, own_lt ho, ?_⟩⟩
    obtain ⟨u, h1, h2, h4, h5, h6⟩ := hx k hk
    obtain ⟨A, cp, rfl, hr⟩ := h6.form h5
    refine ⟨A, cp, ?_, ?_, h4, hr⟩
    · rw [Nat.zero_add, ho.cellAt (k * 2) (by omega)]; exact h1
    · rw [Nat.zero_add, ho.cellAt (k * 2 + 1) (by omega)]; exact h2
end
/-- From block lo on, what was there is there. -/
def Stays (lo : Nat) (w w' : World) : Prop := w.heap.size ≤ w'.heap.size ∧ ∀ b, lo ≤ b → b < w.heap.size → w'.heap[b]? = w.heap[b]?
theorem Stays.refl (lo : Nat) (w : World) : Stays lo w w := ⟨Nat.le_refl _, fun _ _ _ => rfl⟩
theorem Stays.trans {lo : Nat} {a b c : World} (h : Stays lo a b) (k : Stays lo b c) : Stays lo a c :=
  ⟨Nat.le_trans h.1 k.1, fun g hl hg => (k.2 g hl (Nat.lt_of_lt_of_le hg h.1)).trans (h.2 g hl hg)⟩
theorem Stays.below {lo : Nat} {w w' : World} (h : Below w.heap.size w w') : Stays lo w w' := ⟨h.size, fun b _ hb => h.block b hb⟩
theorem Stays.grown {lo g : Nat} {w w' : World} (h : w.grownBy w' (some g)) (hg : g < lo) : Stays lo w w' := ⟨h.size, fun b hl hb => h.block b hb (fun e => by injection e with e; omega)⟩
theorem Stays.keepT {lo : Nat} {w w' : World} (h : Stays lo w w') (T : TypeId → Prop) : KeepT lo T w w' := fun b ds t hl _ hb => h.2 b hl (heap_lt hb)
/-- The slice v reads as the list l, and does so while nothing from block lo on turns. -/
def Lies (w : World) (lo : Nat) (v : Value) (l : List Da) : Prop := ∃ A cap, v = .slice A l.length cap ∧ ∀ w', Stays lo w w' → RDas w' w'.heap.size A l
theorem Lies.at_ {w w' : World} {lo : Nat} {v : Value} {l : List Da} (h : Lies w lo v l) (hs : Stays lo w w') : Lies w' lo v l := by
  obtain ⟨A, cap, e, hr⟩ := h
  exact ⟨A, cap, e, fun w2 h2 => hr w2 (hs.trans h2)⟩
theorem Lies.form {w : World} {lo : Nat} {v : Value} {l : List Da} (h : Lies w lo v l) : ∃ A cap, v = .slice A l.length cap ∧ RDas w w.heap.size A l := by
  obtain ⟨A, cap, e, hr⟩ := h
  exact ⟨A, cap, e, hr w (Stays.refl _ _)⟩
theorem ODas.lies {w : World} {lo : Nat} {v : Value} {l : List Da} (h : ODas w lo v l) (hl : l.length ≤ maxLen) : Lies w lo v l := by
  obtain ⟨A, cap, rfl, _⟩ := h.form hl
  refine ⟨A, cap, rfl, fun w' hs => ?_⟩
  obtain ⟨A', cap', e, hr⟩ := (h.keepT (hs.keepT T28)).form hl
  injection e with e1 e2 e3
  subst e1
  exact hr
end Go.Proofs.Ytakhobhmplneeaa
/-
  A world out of its text, as plain data; a constructor out of its text, whatever the text. No statement is proved here.
-/
namespace Go.Proofs.Ytakhobhmplneeaa
open Go.RowKit Go.Deep
set_option maxRecDepth 100000
set_option linter.unusedVariables false
theorem parseCtor_any (A : Option Addr) (l : List ByteArray) (cap : Nat) (s : ByteArray) (w : World) (hr : RStrs w A l) (hs : s.size ≤ 1048576) :
    Calls Try.prog 67 #[.slice A l.length cap, .string s] w fun e w' => RetCt w w.heap.size e w' (ctP l s) := by
  by_cases h2 : 2 < s.size
  · by_cases hc : ((s[s.size - 2]'(by omega)).toNat : Int) = 58
    · have e : ctP l s = ctQ l (s.extract 0 (s.size - 2)) (((s[s.size - 1]'(by omega)).toNat : Int) - 48) := by
        unfold ctP
        rw [getD_byte (by omega : s.size - 2 < s.size), if_pos ⟨h2, hc⟩, getD_byte (by omega : s.size - 1 < s.size)]
      rw [e]; exact parseCtor_colon A l cap s w hr hs h2 hc
    · have e : ctP l s = ctQ l s 0 := by
        unfold ctP
        rw [getD_byte (by omega : s.size - 2 < s.size), if_neg (fun h => hc h.2)]
      rw [e]; exact parseCtor_plain A l cap s w hr hs h2 hc
  · have e : ctP l s = ctQ l s 0 := by
      unfold ctP
      rw [if_neg (fun h => h2 h.1)]
    rw [e]; exact parseCtor_short A l cap s w hr hs h2
theorem cutB_get_size (s : ByteArray) (c : Int) (k : Nat) : ((cutB s c).getD k ByteArray.empty).size ≤ s.size := by
  by_cases h : k < (cutB s c).length
  · rw [getD_at h]; exact cutB_size (List.getElem_mem h)
  · rw [List.getD_eq_getElem?_getD, List.getElem?_eq_none (by omega)]; exact Nat.zero_le _
theorem ctQ_small (l : List ByteArray) (s : ByteArray) (ix : Int) : (ctQ l s ix).name.size ≤ s.size ∧ (ctQ l s ix).args.length ≤ 4 := by
  unfold ctQ
  split
  · exact ⟨cutB_get_size _ _ _, Nat.zero_le _⟩
  · exact ⟨cutB_get_size _ _ _, by simp only [List.length_map, List.length_take]; omega⟩
theorem ctP_small (l : List ByteArray) (s : ByteArray) : (ctP l s).name.size ≤ s.size ∧ (ctP l s).args.length ≤ 4 := by
  unfold ctP
  split
  · have h := ctQ_small l (s.extract 0 (s.size - 2)) (((s.data.toList.getD (s.size - 1) 0).toNat : Int) - 48)
    have := ext_size s 0 (s.size - 2)
    exact ⟨by omega, h.2⟩
  · exact ctQ_small l s 0
def headsW (s : ByteArray) : List ByteArray := if s.size = 0 then [] else (cutB s 59).take 5
def nameW (L : ByteArray) : ByteArray := (cutB L 61).getD 0 ByteArray.empty
def bodyW (L : ByteArray) : ByteArray := (cutB L 61).getD 1 ByteArray.empty
def ctsW (N : List ByteArray) (L : ByteArray) : List Ct := ((cutB (bodyW L) 124).take 5).map (ctP N)
def daW (N : List ByteArray) (L : ByteArray) : Da := ⟨nameW L, ctsW N L⟩
def outL (H : List ByteArray) : List Da := H.map (daW (H.map nameW))
def outW (s : ByteArray) : List Da := outL (headsW s)
def TwoW (H : List ByteArray) : Prop := ∀ j (h : j < H.length), (cutB H[j] 61).length = 2
def GoodW (s : ByteArray) : Prop := TwoW (headsW s) ∧ WorldOK (outW s) ∧ wT (outW s) = s
noncomputable def pwR (s : ByteArray) : List Da := if dec (GoodW s) then outW s else []
theorem pwR_yes {s : ByteArray} (h : GoodW s) : pwR s = outW s := by unfold pwR; rw [dec_t h]; rfl
theorem pwR_no {s : ByteArray} (h : ¬ GoodW s) : pwR s = [] := by unfold pwR; rw [dec_f h]; rfl
/-- What is returned: a world in rows of the call's own, and whether there is one. -/
def RetW (w : World) (s : ByteArray) (e : Ending) (w' : World) : Prop := ∃ v, e = .returned (.tuple #[v, .bool (dec (GoodW s))]) ∧ ODas w' w.heap.size v (pwR s) ∧ Below w.heap.size w w'
theorem ODas.lit (w : World) (lo : Nat) (h : lo ≤ w.heap.size) : ODas (w.alloc (.cells #[] 103)) lo (.slice (some ⟨w.heap.size, 0, none⟩) 0 0) [] :=
  ⟨[], by simpa using World.ownsRow_lit (base := lo) (e := 103) (size := 2) w #[] 0 h (by simp) rfl, DRow.nil _ _ _⟩
theorem OStrs.lit (w : World) (lo : Nat) (h : lo ≤ w.heap.size) : OStrs (w.alloc (.cells #[] 9)) lo (.slice (some ⟨w.heap.size, 0, none⟩) 0 0) [] := by
  have := World.ownsRow_lit (base := lo) (e := 9) (size := 1) w #[] 0 h (by simp) rfl
  unfold OStrs
  simpa using this
theorem retW_no {w : World} {s : ByteArray} (h : ¬ GoodW s) (w1 : World) (hb : Below w.heap.size w w1) : RetW w s (.returned (.tuple #[.slice (some ⟨w1.heap.size, 0, none⟩) 0 0, .bool false])) (w1.alloc (.cells #[] 103)) :=
  ⟨_, by rw [dec_f h], by rw [pwR_no h]; exact ODas.lit _ _ hb.size, hb.alloc hb.size _⟩
theorem retW_yes {w : World} {s : ByteArray} (h : GoodW s) (v : Value) (w1 : World) (ho : ODas w1 w.heap.size v (outW s)) (hb : Below w.heap.size w w1) : RetW w s (.returned (.tuple #[v, .bool true])) w1 :=
  ⟨_, by rw [dec_t h], by rw [pwR_yes h]; exact ho, hb⟩
theorem take_map_succ {α β : Type} (f : α → β) (L : List α) {k : Nat} (h : k < L.length) : (L.take (k + 1)).map f = (L.take k).map f ++ [f L[k]] := by
  rw [List.take_succ_eq_append_getElem h, List.map_append]; rfl
theorem nameW_at {L : ByteArray} (h : (cutB L 61).length = 2) : nameW L = (cutB L 61)[0]'(by omega) := getD_at (by omega)
theorem bodyW_at {L : ByteArray} (h : (cutB L 61).length = 2) : bodyW L = (cutB L 61)[1]'(by omega) := getD_at (by omega)
end Go.Proofs.Ytakhobhmplneeaa
/-
  The texts of worlds that the document's draws begin with: each is the text of a valid world. No statement is proved here.
-/
namespace Go.Proofs.Ytakhobhmplneeaa
open Go.RowKit Go.Deep
set_option maxRecDepth 100000
set_option linter.unusedVariables false
def texts : List ByteArray := [⟨#[76, 61, 78, 105, 108, 124, 67, 111, 110, 115, 40, 73, 44, 76, 41]⟩,
  ⟨#[66, 61, 84, 114, 117, 124, 70, 108, 115, 59, 84, 61, 76, 101, 97, 102, 124, 78, 111, 100, 101, 40, 84, 44, 66, 44, 84, 41]⟩,
  ⟨#[69, 61, 78, 117, 109, 40, 73, 41, 58, 49, 124, 66, 111, 108, 40, 66, 41, 58, 50, 124, 65, 100, 100, 40, 69, 49, 44, 69, 49, 41, 58, 49, 124, 73, 102, 40, 69, 50, 44, 69, 42, 44, 69, 42, 41, 59, 66, 61, 84, 114, 117, 124, 70, 108, 115]⟩,
  ⟨#[79, 61, 78, 111, 110, 124, 83, 111, 109, 40, 73, 41, 59, 80, 61, 80, 97, 105, 114, 40, 79, 44, 79, 41]⟩,
  ⟨#[86, 61, 69, 110, 100, 58, 49, 124, 83, 111, 109, 101, 40, 73, 44, 86, 49, 41, 58, 50, 124, 84, 119, 111, 40, 86, 42, 41]⟩,
  ⟨#[78, 61, 78, 101, 118, 101, 114, 40, 78, 41, 59, 66, 61, 84, 114, 117, 124, 70, 108, 115, 124, 77, 97, 121, 40, 78, 41]⟩,
  ⟨#[83, 61, 82, 101, 100, 124, 71, 114, 101, 101, 110, 124, 66, 108, 117, 101, 124, 77, 105, 120, 40, 83, 44, 83, 41]⟩,
  ⟨#[]⟩]
/-- The names differ, by a count. -/
def diffB (l : List Da) : Bool := (List.range l.length).all fun d =>
  (List.range d).all (fun i => !decide (bs (l.getD i default).name = bs (l.getD d default).name)) &&
  (List.range (l.getD d default).ctors.length).all fun j => (List.range l.length).all fun i => (List.range (l.getD i default).ctors.length).all fun m =>
    !(decide (i < d ∨ (i = d ∧ m < j)) && decide (bs ((l.getD i default).ctors.getD m default).name = bs ((l.getD d default).ctors.getD j default).name))
theorem getD_in {α : Type} [Inhabited α] {l : List α} {k : Nat} (h : k < l.length) : l.getD k default = l[k] := by
  rw [List.getD_eq_getElem?_getD, List.getElem?_eq_getElem h]; rfl
theorem differ_of {l : List Da} (h : diffB l = true) : Differ l := fun d hd _ => by
  unfold diffB at h
  rw [List.all_eq_true] at h
  have h1 := h d (List.mem_range.2 hd)
  rw [Bool.and_eq_true, List.all_eq_true, List.all_eq_true] at h1
  constructor
  · rintro ⟨i, hi, hlt, e⟩
    have := h1.1 i (List.mem_range.2 hlt)
    rw [getD_in hi, getD_in hd] at this
    simp [e] at this
  · intro j hj _
    rintro ⟨i, hi, m, hm, hlt, e⟩
    have h2 := h1.2 j (List.mem_range.2 (by rw [getD_in hd]; exact hj))
    rw [List.all_eq_true] at h2
    have h3 := h2 i (List.mem_range.2 hi)
    rw [List.all_eq_true] at h3
    have h4 := h3 m (List.mem_range.2 (by rw [getD_in hi]; exact hm))
    rw [getD_in hi, getD_in hd, getD_in hm, getD_in hj] at h4
    simp [hlt, e] at h4
def goodB (s : ByteArray) : Bool := (headsW s).all (fun h => decide ((cutB h 61).length = 2)) && (decide ((outW s).length ≤ 4) && ((outW s).all (dataB (outW s).length) && (diffB (outW s) && decide ((wT (outW s)).data.toList = s.data.toList))))
theorem good_of {s : ByteArray} (h : goodB s = true) : GoodW s := by
  unfold goodB at h
  simp only [Bool.and_eq_true, decide_eq_true_eq, List.all_eq_true] at h
  obtain ⟨h1, h2, h3, h4, h5⟩ := h
  exact ⟨fun j hj => h1 _ (List.getElem_mem hj), ⟨h2, fun j hj _ => h3 _ (List.getElem_mem hj), differ_of h4⟩, Go.WideShapes.bytes_inj h5⟩
def textB (s : ByteArray) : Bool := goodB s && decide (0 < (outW s).length) && decide (s.size ≤ 100) && decide (0 < s.size)
theorem texts_ok : ((texts.take 7).all textB) = true := by decide +kernel
theorem texts_len : texts.length = 8 := rfl
/-- One of the first seven. -/
theorem text_good {k : Nat} (hk : k < 7) : ∃ h : k < texts.length, GoodW texts[k] ∧ 0 < (outW texts[k]).length ∧ texts[k].size ≤ 100 ∧ ¬ texts[k].size = 0 := by
  have hl : k < texts.length := by rw [texts_len]; omega
  have h := texts_ok
  rw [List.all_eq_true] at h
  have h1 : texts[k] ∈ texts.take 7 := by
    rw [List.mem_take_iff_getElem]
    exact ⟨k, by rw [texts_len]; omega, rfl⟩
  have h2 := h _ h1
  unfold textB at h2
  simp only [Bool.and_eq_true, decide_eq_true_eq] at h2
  exact ⟨hl, good_of h2.1.1.1, h2.1.1.2, h2.1.2, by have := h2.2; omega⟩
end Go.Proofs.Ytakhobhmplneeaa
/-
  The least depths of all types that have values, in a map: the program's function. No statement is proved here.
-/
namespace Go.Proofs.Ytakhobhmplneeaa
open Go.RowKit Go.Maps
set_option maxRecDepth 100000
set_option linter.unusedVariables false
/-- The types that are made within k rounds, and those that are not, yet. -/
def Mk (l : List Da) (k : Nat) (t : Ty) : Prop := t ∈ tysN l.length ∧ Dk (mkF l) k t
noncomputable def opn (l : List Da) (k : Nat) : List Ty := (tysN l.length).filter (fun t => dec (¬ Dk (mkF l) k t))
/-- The types that have values. -/
def Inh (l : List Da) (t : Ty) : Prop := t ∈ tysN l.length ∧ ∃ k, Dk (mkF l) k t
/-- What is made in round k + 1. -/
noncomputable def new (l : List Da) (k : Nat) : List Ty := fil (mkF l (Mk l k)) (opn l k) (opn l k).length
theorem ldep_le {l : List Da} {t : Ty} {k : Nat} (h : Dk (mkF l) k t) : ldep l t ≤ k := by
  rcases ldep_is l t with ⟨h1, _⟩ | ⟨h1, _, h3⟩
  · omega
  · have : ¬ k < (ldep l t).toNat := fun hk => h3 k hk h
    omega
end Go.Proofs.Ytakhobhmplneeaa
/-
  The least depth of a type, and whether it has values: the program's functions and the document's. No statement is proved here.
-/
namespace Go.Proofs.Ytakhobhmplneeaa
open Go.RowKit Go.Deep
set_option maxRecDepth 100000
set_option linter.unusedVariables false
theorem ldep_no {l : List Da} {t : Ty} (ht : t ∈ tysN l.length) (h : ¬ Inh l t) : ldep l t = 0 := by
  rcases ldep_is l t with ⟨h1, _⟩ | ⟨_, h2, _⟩
  · exact h1
  · exact absurd ⟨ht, _, h2⟩ h
theorem ldep_yes {l : List Da} {t : Ty} (h : Inh l t) : 0 < ldep l t := by
  obtain ⟨_, k, hk⟩ := h
  exact ldep_pos hk
theorem depth_l (A : Option Addr) (l : List Da) (T : List Int) (cap N : Nat) (t : Ty) (hNT : T.length = N) (w : World) (hr : RInts w A T) (hw : WorldOK l) (hS : St l T (l.length * 4 + 1) 0 0) (ht : t ∈ tysN l.length) :
    Calls Try.prog 32 #[.slice A N cap, .agg #[.int .i64 t.data, .int .i64 t.index]] w fun e w' => e = .returned (.int .i64 (ldep l t)) ∧ Below w.heap.size w w' := by
  subst hNT
  rw [← dep_ldep hw hS ht]
  exact depth_any A T cap l.length t w hr hS.len hw.1 (tys_in ht)
end Go.Proofs.Ytakhobhmplneeaa
