/-
  A number looked for in a list; the index that a constructor makes. No statement is proved here.
-/
import Derived.Test.YthebdlejoficmaaCtors3
import Derived.Test.YthebdlejoficmaaMark2
namespace Go.Proofs.Ythebdlejoficmaa
open Go.RowKit
set_option maxRecDepth 100000
set_option linter.unusedVariables false

def NotIn (l : List Int) (x : Int) (k : Nat) : Prop := ∀ j (h : j < l.length), j < k → ¬ l[j] = x
theorem NotIn.zero (l : List Int) (x : Int) : NotIn l x 0 := fun j _ h => absurd h (by omega)
theorem NotIn.step {l : List Int} {x : Int} {k : Nat} (h : NotIn l x k) (hk : k < l.length) (e : ¬ l[k] = x) : NotIn l x (k + 1) := by
  intro j hj hjk
  by_cases e' : j = k
  · subst e'; exact e
  · exact h j hj (by omega)
theorem NotIn.all {l : List Int} {x : Int} {k : Nat} (h : NotIn l x k) (hk : l.length ≤ k) : ¬ x ∈ l := fun hx => by
  obtain ⟨j, hj, e⟩ := List.getElem_of_mem hx
  exact h j hj (by omega) e

theorem has_any (A : Option Addr) (l : List Int) (cap : Nat) (x : Int) (w : World) (hr : RInts w A l) :
    Calls Try.prog 58 #[.slice A l.length cap, .int .i64 x] w fun e w' => e = .returned (.bool (dec (x ∈ l))) ∧ w = w' := by
  have hn := hr.1
  unfold maxLen at hn
  have Hr := Lib.hid hr
  clear hr
  go_enter Try.func58, Try.ntmps58
  go_wp2_with fail
  go_loopw [5] (fun i wr => ∃ k : Nat, k ≤ l.length ∧ i = .int .i64 k ∧ NotIn l x k ∧ w = wr) (fun i _ => l.length - (intOf i).toNat)
  case atStart => exact ⟨0, by omega, rfl, NotIn.zero _ _, rfl⟩
  case round =>
    obtain ⟨k, hk, rfl, hno, rfl⟩ := hrel
    by_cases hlt : k < l.length
    · obtain ⟨b, off, rfl, _, c0⟩ := Hr.out.2 k hlt
      by_cases he : l[k] = x
      · have q := ieq_t he
        have HI : Hid (x ∈ l) := by rw [← he]; exact List.getElem_mem hlt
        clear he
        go_wp2_with fail
        go_ret
        exact ⟨ret_bool (dec_t HI.out).symm, rfl⟩
      · have q := ieq_f he
        have HN := Lib.hid (hno.step hlt he)
        clear he
        go_wp2_with fail
        go_roundw
        case rel => exact ⟨k + 1, by omega, by go_num, HN.out, trivial⟩
        case measure => simp [intOf]; omega
    · go_wp2_with fail
      go_ret
      exact ⟨ret_bool (dec_f (hno.all (by omega))).symm, rfl⟩

theorem index_any (A : Option Addr) (l : List Int) (cap : Nat) (x : Int) (w : World) (hr : RInts w A l) :
    Calls Try.prog 77 #[.slice A l.length cap, .int .i64 x] w fun e w' => ∃ r : Int, e = .returned (.int .i64 r) ∧ decide (0 ≤ r) = dec (x ∈ l) ∧ w = w' := by
  have hn := hr.1
  unfold maxLen at hn
  have Hr := Lib.hid hr
  clear hr
  go_enter Try.func77, Try.ntmps77
  go_wp2_with fail
  go_loopw [8] (fun i wr => ∃ k : Nat, k ≤ l.length ∧ i = .int .i64 k ∧ NotIn l x k ∧ w = wr) (fun i _ => l.length - (intOf i).toNat)
  case atStart => exact ⟨0, by omega, rfl, NotIn.zero _ _, rfl⟩
  case round =>
    obtain ⟨k, hk, rfl, hno, rfl⟩ := hrel
    by_cases hlt : k < l.length
    · obtain ⟨b, off, rfl, _, c0⟩ := Hr.out.2 k hlt
      by_cases he : l[k] = x
      · have q := ieq_t he.symm
        have HI : Hid (x ∈ l) := by rw [← he]; exact List.getElem_mem hlt
        clear he
        go_wp2_with fail
        go_ret
        exact ⟨_, rfl, by rw [dec_t HI.out]; simp, rfl⟩
      · have q := ieq_f (fun e => he e.symm)
        have HN := Lib.hid (hno.step hlt he)
        clear he
        go_wp2_with fail
        go_roundw
        case rel => exact ⟨k + 1, by omega, by go_num, HN.out, trivial⟩
        case measure => simp [intOf]; omega
    · go_wp2_with fail
      go_ret
      exact ⟨_, rfl, by rw [dec_f (hno.all (by omega))]; rfl, rfl⟩

theorem contains_any (A : Option Addr) (l : List Int) (cap : Nat) (x : Int) (w : World) (hr : RInts w A l) :
    Calls Try.prog 60 #[.slice A l.length cap, .int .i64 x] w fun e w' => e = .returned (.bool (dec (x ∈ l))) ∧ w = w' := by
  have Hr := Lib.hid hr
  clear hr
  go_enter Try.func60, Try.ntmps60
  go_wp2_with (go_at_call 77; refine (index_any _ _ _ _ _ Hr.out).mono ?_; rintro e w1 ⟨r, rfl, hd, rfl⟩; have HD := Lib.hid hd; clear hd)
  go_ret
  exact ⟨ret_bool HD.out, rfl⟩

/-- The index of what a constructor makes for a type of an index. -/
def resI (a ix : Int) : Int := if a = 0 then ix else a
theorem result_any (nm : ByteArray) (A : Option Addr) (n cap : Nat) (a ix : Int) (w : World) :
    Calls Try.prog 76 #[.agg #[.string nm, .slice A n cap, .int .i64 a], .int .i64 ix] w fun e w' => e = .returned (.int .i64 (resI a ix)) ∧ Below w.heap.size w w' := by
  have HB : Hid (∀ o : Obj, Below w.heap.size w (w.alloc o)) := fun o => (Below.refl _ _).alloc (Nat.le_refl _) _
  by_cases h : a = 0
  · have q := ieq_t h
    have H : Hid (resI a ix = ix) := if_pos h
    clear h
    go_enter Try.func76, Try.ntmps76
    go_wp2_with fail
    go_ret
    exact ⟨ret_i64 H.out.symm, HB.out _⟩
  · have q := ieq_f h
    have H : Hid (resI a ix = a) := if_neg h
    clear h
    go_enter Try.func76, Try.ntmps76
    go_wp2_with fail
    go_ret
    exact ⟨ret_i64 H.out.symm, HB.out _⟩

def argOf (c : Ct) (ix : Int) (a : Ty) : Ty := if a.index = -1 then ⟨a.data, resI c.index ix⟩ else a
def argT (c : Ct) (ix : Int) : List Ty := c.args.map (argOf c ix)
theorem argT_len (c : Ct) (ix : Int) : (argT c ix).length = c.args.length := List.length_map _
theorem argT_get (c : Ct) (ix : Int) (k : Nat) (h : k < c.args.length) (h' : k < (argT c ix).length) : (argT c ix)[k] = argOf c ix c.args[k] := by simp [argT]
/-- Types in a row of the call's own, the first k of a list. -/
def OTys (w : World) (lo : Nat) (v : Value) (l : List Ty) (k : Nat) : Prop := ∃ xs, w.ownsRow lo 34 2 v k xs ∧ TyRow l xs k
theorem TyRow.snoc {l : List Ty} {xs : List Value} {k : Nat} (h : TyRow l xs k) (hk : k < l.length) (hx : xs.length = k * 2) : TyRow l (xs ++ [.int .i64 l[k].data, .int .i64 l[k].index]) (k + 1) := by
  intro j hj hjk
  by_cases e : j = k
  · subst e
    constructor
    · rw [List.getElem?_append_right (by omega), hx]; simp
    · rw [List.getElem?_append_right (by omega), hx]; simp
  · obtain ⟨a, b⟩ := h j hj (by omega)
    constructor
    · rw [List.getElem?_append_left (by omega)]; exact a
    · rw [List.getElem?_append_left (by omega)]; exact b
theorem OTys.form {w : World} {lo : Nat} {v : Value} {l : List Ty} (h : OTys w lo v l l.length) (hl : l.length ≤ maxLen) : ∃ A cap, v = .slice A l.length cap ∧ RTys w w.heap.size A l := by
  obtain ⟨xs, ho, hx⟩ := h
  rcases ho.2 with ⟨rfl, h0⟩ | ⟨g, cap, cur, rfl, hb, hg, hnc, hcm, hcs, htake⟩
  · exact ⟨none, 0, by rw [h0], hl, fun k hk => absurd hk (by omega)⟩
  · refine ⟨_, cap, rfl, hl, fun k hk => ⟨g, 0, rfl, own_lt ho, ?_, ?_⟩⟩
    · rw [Nat.zero_add, ho.cellAt (k * 2) (by omega)]; exact (hx k hk hk).1
    · rw [Nat.zero_add, ho.cellAt (k * 2 + 1) (by omega)]; exact (hx k hk hk).2
theorem OTys.lower {w : World} {lo lo' : Nat} {v : Value} {l : List Ty} {k : Nat} (h : OTys w lo v l k) (hl : lo' ≤ lo) : OTys w lo' v l k := by
  obtain ⟨xs, ho, hx⟩ := h
  refine ⟨xs, ⟨ho.1, ?_⟩, hx⟩
  rcases ho.2 with h0 | ⟨g, cap, cur, a1, a2, a3⟩
  · exact .inl h0
  · exact .inr ⟨g, cap, cur, a1, by omega, a3⟩
end Go.Proofs.Ythebdlejoficmaa
