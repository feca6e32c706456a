/-
  The constructors that can make values of a type: both functions, whole. No statement is proved here.
-/
import Derived.Test.YthebdlejoficmaaCtors2
import Derived.Outline
namespace Go.Proofs.Ythebdlejoficmaa
open Go.RowKit
set_option maxRecDepth 100000
set_option linter.unusedVariables false

/-- The places of the constructors of a type. -/
noncomputable def ctR (l : List Da) (t : Ty) : List Int := if dec (TyOK l t) then (if t.data = -1 then [] else ctL (l.getD t.data.toNat default).ctors t.index (l.getD t.data.toNat default).ctors.length) else []
theorem ctR_no {l : List Da} {t : Ty} (h : ¬ TyOK l t) : ctR l t = [] := by unfold ctR; rw [dec_f h]; rfl
theorem ctR_int {l : List Da} {t : Ty} (h : t.data = -1) : ctR l t = [] := by unfold ctR; rw [if_pos h]; split <;> rfl
theorem ctR_data {l : List Da} {d : Nat} {i : Int} (h : TyOK l ⟨d, i⟩) (hd : d < l.length) : ctR l ⟨d, i⟩ = ctL l[d].ctors i l[d].ctors.length := by
  have hn : ¬ (d : Int) = -1 := by omega
  have e : l.getD d default = l[d] := by simp [List.getD, List.getElem?_eq_getElem hd]
  unfold ctR
  rw [dec_t h]
  simp only [if_true, if_neg hn, Int.toNat_natCast, e]
theorem ty_cases {l : List Da} {t : Ty} (h : TyOK l t) : t.data = -1 ∨ ∃ d : Nat, t.data = d ∧ d < l.length := by
  by_cases h1 : t.data = -1
  · exact .inl h1
  · have h2 := h.2
    rw [argB_data h1] at h2
    have h3 := of_decide_eq_true h2
    exact .inr ⟨t.data.toNat, by omega, by omega⟩
theorem ty_four {l : List Da} {t : Ty} (h : TyOK l t) {d : Nat} (hd : d < l.length) : l[d].ctors.length ≤ 4 := (data_len4 (h.1.2.1 d hd hd)).2
theorem OInts.lower {w : World} {lo lo' : Nat} {v : Value} {xs : List Int} (h : OInts w lo v xs) (hl : lo' ≤ lo) : OInts w lo' v xs := by
  have h' : w.ownsRow lo 3 1 v xs.length (xs.map (Value.int .i64)) := h
  refine ⟨h'.1, ?_⟩
  rcases h'.2 with h0 | ⟨g, cap, cur, a1, a2, a3⟩
  · exact .inl h0
  · exact .inr ⟨g, cap, cur, a1, by omega, a3⟩
theorem ctR_len (l : List Da) (t : Ty) : (ctR l t).length ≤ 4 := by
  by_cases h : TyOK l t
  · rcases ty_cases h with h1 | ⟨d, h1, hd⟩
    · rw [ctR_int h1]; simp
    · obtain ⟨td, ti⟩ := t
      simp only at h1
      subst h1
      rw [ctR_data h hd]
      have := ctL_length l[d].ctors ti l[d].ctors.length
      have := ty_four h hd
      omega
  · rw [ctR_no h]; simp

theorem l1Ctors_int (A : Option Addr) (n cap : Nat) (ix : Int) (w : World) :
    Calls Try.prog 54 #[.slice A n cap, .agg #[.int .i64 (-1), .int .i64 ix]] w fun e w' => ∃ v, e = .returned v ∧ OInts w' w.heap.size v [] ∧ Below w.heap.size w w' := by
  have HO : Hid (∀ o : Obj, OInts ((w.alloc o).alloc (.cells #[] 3)) w.heap.size (.slice (some ⟨w.heap.size + 1, 0, none⟩) 0 0) []) := fun o => by
    have := World.ownsRow_lit (base := w.heap.size) (e := 3) (size := 1) (w.alloc o) #[] 0 (by simp) (by simp) rfl
    unfold OInts
    simpa using this
  have HB : Hid (∀ o o' : Obj, Below w.heap.size w ((w.alloc o).alloc o')) := fun o o' => ((Below.refl _ _).alloc (Nat.le_refl _) _).alloc (by simp) _
  go_enter Try.func54, Try.ntmps54
  go_wp2_with fail
  go_ret
  exact ⟨_, rfl, HO.out _, HB.out _ _⟩
theorem ctorsOf_int (A : Option Addr) (n cap : Nat) (ix : Int) (w : World) :
    Calls Try.prog 55 #[.slice A n cap, .agg #[.int .i64 (-1), .int .i64 ix]] w fun e w' => ∃ v, e = .returned v ∧ OInts w' w.heap.size v [] ∧ Below w.heap.size w w' := by
  have HB : Hid (∀ o : Obj, Below w.heap.size w (w.alloc o)) := fun o => (Below.refl _ _).alloc (Nat.le_refl _) _
  go_enter Try.func55, Try.ntmps55
  go_wp2_with fail
  go_ret
  exact ⟨_, rfl, World.ownsRow_nil _ _ _ _, HB.out _⟩

theorem typeV_yes {A : Option Addr} {l : List Da} {cap : Nat} {t : Ty} {w : World} (hr : RDas w w.heap.size A l) (h : TyOK l t) :
    Calls Try.prog 20 #[.slice A l.length cap, .agg #[.int .i64 t.data, .int .i64 t.index]] w fun e w' => e = .returned (.bool true) ∧ Below w.heap.size w w' := by rw [← dec_t h]; exact typeValid_spec A l cap t w hr
theorem typeV_no {A : Option Addr} {l : List Da} {cap : Nat} {t : Ty} {w : World} (hr : RDas w w.heap.size A l) (h : ¬ TyOK l t) :
    Calls Try.prog 20 #[.slice A l.length cap, .agg #[.int .i64 t.data, .int .i64 t.index]] w fun e w' => e = .returned (.bool false) ∧ Below w.heap.size w w' := by rw [← dec_f h]; exact typeValid_spec A l cap t w hr
theorem typeI_yes {A : Option Addr} {l : List Da} {cap : Nat} {t : Ty} {w : World} (hr : RDas w w.heap.size A l) (h : TyOK l t) :
    Calls Try.prog 22 #[.slice A l.length cap, .agg #[.int .i64 t.data, .int .i64 t.index]] w fun e w' => e = .returned (.bool true) ∧ Below w.heap.size w w' := by rw [← dec_t h]; exact typeValid_impl A l cap t w hr
theorem typeI_no {A : Option Addr} {l : List Da} {cap : Nat} {t : Ty} {w : World} (hr : RDas w w.heap.size A l) (h : ¬ TyOK l t) :
    Calls Try.prog 22 #[.slice A l.length cap, .agg #[.int .i64 t.data, .int .i64 t.index]] w fun e w' => e = .returned (.bool false) ∧ Below w.heap.size w w' := by rw [← dec_f h]; exact typeValid_impl A l cap t w hr

/-- What the two functions give for a valid type. -/
theorem l1Ctors_all (A : Option Addr) (l : List Da) (cap : Nat) (t : Ty) (w : World) (hr : RDas w w.heap.size A l) (h : TyOK l t) :
    Calls Try.prog 54 #[.slice A l.length cap, .agg #[.int .i64 t.data, .int .i64 t.index]] w fun e w' => ∃ v, e = .returned v ∧ OInts w' w.heap.size v (ctR l t) ∧ Below w.heap.size w w' := by
  rcases ty_cases h with h1 | ⟨d, h1, hd⟩
  · rw [ctR_int h1, h1]; exact l1Ctors_int A l.length cap t.index w
  · obtain ⟨td, ti⟩ := t
    simp only at h1
    subst h1
    rw [ctR_data h hd]
    exact (l1Ctors_data A l cap d ti hd (ty_four h hd) w hr).mono fun e w' ⟨v, he, ho, hb⟩ => ⟨v, he, ho.lower (by omega), hb⟩
theorem ctorsOf_all (A : Option Addr) (l : List Da) (cap : Nat) (t : Ty) (w : World) (hr : RDas w w.heap.size A l) (h : TyOK l t) :
    Calls Try.prog 55 #[.slice A l.length cap, .agg #[.int .i64 t.data, .int .i64 t.index]] w fun e w' => ∃ v, e = .returned v ∧ OInts w' w.heap.size v (ctR l t) ∧ Below w.heap.size w w' := by
  rcases ty_cases h with h1 | ⟨d, h1, hd⟩
  · rw [ctR_int h1, h1]; exact ctorsOf_int A l.length cap t.index w
  · obtain ⟨td, ti⟩ := t
    simp only at h1
    subst h1
    rw [ctR_data h hd]
    exact (ctorsOf_data A l cap d ti hd (ty_four h hd) w hr).mono fun e w' ⟨v, he, ho, hb⟩ => ⟨v, he, ho.lower (by omega), hb⟩

theorem ctors_spec (A : Option Addr) (l : List Da) (cap : Nat) (t : Ty) (w : World) (hr : RDas w w.heap.size A l) :
    Calls Try.prog 23 #[.slice A l.length cap, .agg #[.int .i64 t.data, .int .i64 t.index]] w fun e w' => ∃ v, e = .returned v ∧ OInts w' w.heap.size v (ctR l t) ∧ Below w.heap.size w w' := by
  have Hr := Lib.hid hr
  clear hr
  by_cases h : TyOK l t
  · go_enter Try.func23, Try.ntmps23
    go_wp2_with (first | (go_at_call 20; refine (typeV_yes (t := t) (by exact Hr.out.keep (keep_one _) (by simp)) h).mono ?_; rintro e w1 ⟨rfl, hb⟩; obtain ⟨hc, hfz⟩ := bcell hb; have hb1 := below_one hb) | (go_at_call 54; refine (l1Ctors_all _ l _ t _ (by exact Hr.out.keep (fun p hp => hb1.cell hp) hb1.size) h).mono ?_; rintro e w2 ⟨v, rfl, ho, hb2'⟩; have hb2 := hb1.trans (hb2'.mono hb1.size); have HO := Lib.hid (ho.lower hb1.size); clear ho))
    go_ret
    exact ⟨_, rfl, HO.out, hb2⟩
  · have HC := Lib.hid (ctR_no h)
    have HE : Hid (∀ w1 : World, w.heap.size ≤ w1.heap.size → OInts (w1.alloc (.cells #[] 3)) w.heap.size (.slice (some ⟨w1.heap.size, 0, none⟩) 0 0) []) := fun w1 hl => by
      have := World.ownsRow_lit (base := w.heap.size) (e := 3) (size := 1) w1 #[] 0 hl (by simp) rfl
      unfold OInts
      simpa using this
    go_enter Try.func23, Try.ntmps23
    go_wp2_with (go_at_call 20; refine (typeV_no (t := t) (by exact Hr.out.keep (keep_one _) (by simp)) h).mono ?_; rintro e w1 ⟨rfl, hb⟩; have hb1 := below_one hb; clear hb)
    go_ret
    exact ⟨_, rfl, by rw [HC.out]; exact HE.out _ hb1.size, hb1.alloc hb1.size _⟩
theorem ctors_impl (A : Option Addr) (l : List Da) (cap : Nat) (t : Ty) (w : World) (hr : RDas w w.heap.size A l) :
    Calls Try.prog 24 #[.slice A l.length cap, .agg #[.int .i64 t.data, .int .i64 t.index]] w fun e w' => ∃ v, e = .returned v ∧ OInts w' w.heap.size v (ctR l t) ∧ Below w.heap.size w w' := by
  have Hr := Lib.hid hr
  clear hr
  by_cases h : TyOK l t
  · go_enter Try.func24, Try.ntmps24
    go_wp2_with (first | (go_at_call 22; refine (typeI_yes (t := t) (by exact Hr.out.keep (keep_one _) (by simp)) h).mono ?_; rintro e w1 ⟨rfl, hb⟩; obtain ⟨hc, hfz⟩ := bcell hb; have hb1 := below_one hb) | (go_at_call 55; refine (ctorsOf_all _ l _ t _ (by exact Hr.out.keep (fun p hp => hb1.cell hp) hb1.size) h).mono ?_; rintro e w2 ⟨v, rfl, ho, hb2'⟩; have hb2 := hb1.trans (hb2'.mono hb1.size); have HO := Lib.hid (ho.lower hb1.size); clear ho))
    go_ret
    exact ⟨_, rfl, HO.out, hb2⟩
  · have HC := Lib.hid (ctR_no h)
    go_enter Try.func24, Try.ntmps24
    go_wp2_with (go_at_call 22; refine (typeI_no (t := t) (by exact Hr.out.keep (keep_one _) (by simp)) h).mono ?_; rintro e w1 ⟨rfl, hb⟩; have hb1 := below_one hb; clear hb)
    go_ret
    exact ⟨_, rfl, by rw [HC.out]; exact World.ownsRow_nil _ _ _ _, hb1⟩
end Go.Proofs.Ythebdlejoficmaa
