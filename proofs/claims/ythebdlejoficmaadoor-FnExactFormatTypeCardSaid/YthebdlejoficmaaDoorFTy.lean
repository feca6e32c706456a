/-
  The texts of types: the program's functions, and FormatType of the program and of the document. No statement is proved here.
-/
import Derived.Test.YthebdlejoficmaaDoorTxt3
import Derived.Test.YthebdlejoficmaaDoorShelf
namespace Go.Proofs.YthebdlejoficmaaDoor
open Go.RowKit Go.Deep
set_option maxRecDepth 100000
set_option linter.unusedVariables false

theorem dig_small {n : Nat} (h : n < 10) : (⟨(Lib.decDigits n).toArray⟩ : ByteArray) = dig n := by
  rcases (by omega : n = 0 ∨ n = 1 ∨ n = 2 ∨ n = 3 ∨ n = 4 ∨ n = 5 ∨ n = 6 ∨ n = 7 ∨ n = 8 ∨ n = 9) with rfl | rfl | rfl | rfl | rfl | rfl | rfl | rfl | rfl | rfl <;> (first | rfl | (unfold Lib.decDigits; rfl) | decide +kernel)
theorem ixI_any (i : Int) (w : World) (h0 : -1 ≤ i) (h9 : i ≤ 9) :
    Calls Tryd.prog 41 #[.int .i64 i] w fun e w' => e = .returned (.string (ixT i)) ∧ w = w' := by
  by_cases h1 : i = 0
  · have q := ieq_t h1
    have HD : Hid (ixT i = ⟨#[]⟩) := if_pos h1
    clear h1
    go_enter Tryd.func41, Tryd.ntmps41
    go_wp2_with fail
    go_ret
    exact ⟨ret_str HD.out.symm, rfl⟩
  · by_cases h2 : i = -1
    · have q := ieq_f h1
      have q2 := ieq_t h2
      have HD : Hid (ixT i = ⟨#[42]⟩) := by unfold Hid ixT; rw [if_neg h1, if_pos h2]
      clear h1 h2
      go_enter Tryd.func41, Tryd.ntmps41
      go_wp2_with fail
      go_ret
      exact ⟨ret_str HD.out.symm, rfl⟩
    · have q := ieq_f h1
      have q2 := ieq_f h2
      have HD : Hid (ixT i = dig i) := by unfold Hid ixT; rw [if_neg h1, if_neg h2]
      obtain ⟨n, rfl⟩ : ∃ n : Nat, i = n := ⟨i.toNat, by omega⟩
      have HN := Lib.hid (dig_small (n := n) (by omega))
      have hn : n < 100 := by omega
      clear h1 h2
      go_enter Tryd.func41, Tryd.ntmps41
      go_wp2_with fail
      refine (Tryd.strconv_Itoa_small n hn _).mono ?_
      rintro e w1 ⟨rfl, rfl⟩
      go_wp2_with fail
      go_ret
      exact ⟨ret_str (by rw [HD.out, HN.out]), rfl⟩

theorem typeI_int (A : Option Addr) (n cap : Nat) (i : Int) (w : World) :
    Calls Tryd.prog 23 #[.slice A n cap, .agg #[.int .i64 (-1), .int .i64 i]] w fun e w' => e = .returned (.string ⟨#[73]⟩) ∧ Below w.heap.size w w' := by
  have HB : Hid (∀ o : Obj, Below w.heap.size w (w.alloc o)) := fun o => (Below.refl _ _).alloc (Nat.le_refl _) _
  go_enter Tryd.func23, Tryd.ntmps23
  go_wp2_with fail
  go_ret
  exact ⟨rfl, HB.out _⟩
theorem ixI_below (i : Int) (w : World) (h0 : -1 ≤ i) (h9 : i ≤ 9) :
    Calls Tryd.prog 41 #[.int .i64 i] w fun e w' => e = .returned (.string (ixT i)) ∧ Below w.heap.size w w' :=
  (ixI_any i w h0 h9).mono fun e w' ⟨h, h'⟩ => ⟨h, by subst h'; exact Below.refl _ _⟩
set_option maxHeartbeats 800000 in
theorem typeI_data (A : Option Addr) (l : List Da) (cap d : Nat) (i : Int) (w : World) (hr : RDas w w.heap.size A l) (hd : d < l.length) (hn : l[d].name.size ≤ 100) (h0 : -1 ≤ i) (h9 : i ≤ 9) :
    Calls Tryd.prog 23 #[.slice A l.length cap, .agg #[.int .i64 d, .int .i64 i]] w fun e w' => e = .returned (.string (l[d].name ++ ixT i)) ∧ Below w.heap.size w w' := by
  have hm := hr.1
  unfold maxLen at hm
  obtain ⟨b, off, rfl, hbB, A', cp, c0, c1, _, _⟩ := hr.2 d hd
  clear hr c1
  have q0 : ((d : Int) == -1) = false := ieq_f (by omega)
  have hdI : (d : Int) < (l.length : Int) := by omega
  have hd0 : (0 : Int) ≤ (d : Int) := Int.natCast_nonneg _
  have hxs := ixT_size i
  generalize hw0 : w.alloc (.cells #[.int .i64 d, .int .i64 i] 29) = w0
  have x0 : w0.cell? ⟨w.heap.size, 0, none⟩ = some (.int .i64 d) := by rw [← hw0]; simp [go_sem]
  have x1 : w0.cell? ⟨w.heap.size, 1, none⟩ = some (.int .i64 i) := by rw [← hw0]; simp [go_sem]
  have x2 : w0.cell? ⟨b, off + d * 2, none⟩ = some (.string l[d].name) := by rw [← hw0]; exact (World.cell?_alloc_lt _ _ _ hbB).trans c0
  have hb0 : Below w.heap.size w w0 := by rw [← hw0]; exact (Below.refl _ _).alloc (Nat.le_refl _) _
  have HW := Lib.hid hw0
  clear hw0 c0
  go_enter Tryd.func23, Tryd.ntmps23
  go_wp2_with fail
  rw [HW.out]
  have hadd : ∀ w : World, (Op.stringOp .add l[d].name (ixT i)).run Tryd.prog w = .ok (.string (l[d].name ++ ixT i)) w := fun w => run_string_add_sum w _ _ (by omega)
  go_region_held3 (fun w' => w'.cell? ⟨w.heap.size, 0, none⟩ = some (.int .i64 d) ∧ w'.cell? ⟨w.heap.size, 1, none⟩ = some (.int .i64 i) ∧ w'.cell? ⟨b, off + d * 2, none⟩ = some (.string l[d].name)) (first | exact ⟨x0, x1, x2⟩ | exact ⟨y0, y1, y2⟩ | go_keep) (first | (go_at_call 41; refine (ixI_below _ _ h0 h9).mono ?_; rintro e w1 ⟨rfl, hb1⟩; have hb1' : Below w0.heap.size w0 w1 := ⟨hb1.os, hb1.tape, hb1.output, hb1.size, hb1.block⟩; have y0 := (hb1'.cell (p := ⟨w.heap.size, 0, none⟩) (Go.block_lt_of_cell x0)).trans x0; have y1 := (hb1'.cell (p := ⟨w.heap.size, 1, none⟩) (Go.block_lt_of_cell x1)).trans x1; have y2 := (hb1'.cell (p := ⟨b, off + d * 2, none⟩) (Go.block_lt_of_cell x2)).trans x2))
  have hbF := below_after hb0 hb1' hb0.size
  go_wp2_with fail
  go_ret
  exact ⟨rfl, hbF⟩
theorem typeT_impl (A : Option Addr) (l : List Da) (cap : Nat) (t : Ty) (s : ByteArray) (w : World) (hr : RDas w w.heap.size A l) (hs : Short l) (ht : ArgIn l.length t) (he : tyT l t = s) :
    Calls Tryd.prog 23 #[.slice A l.length cap, .agg #[.int .i64 t.data, .int .i64 t.index]] w fun e w' => e = .returned (.string s) ∧ Below w.heap.size w w' := by
  subst he
  obtain ⟨d, i⟩ := t
  by_cases h : d = -1
  · subst h
    rw [tyT_int rfl]
    exact typeI_int A l.length cap i w
  · have h1 := ht.1.resolve_left h
    simp only at h1
    obtain ⟨k, rfl⟩ : ∃ k : Nat, d = k := ⟨d.toNat, by omega⟩
    rw [tyT_data (by omega : k < l.length)]
    exact typeI_data A l cap k i w hr (by omega) (hs k (by omega)) ht.2.1 (by have := ht.2.2; simp only at this; omega)
theorem ok_in {l : List Da} {t : Ty} (h : TyOK l t) : ArgIn l.length t := by
  have h2 := h.2
  by_cases hb : t.data = -1
  · rw [argB_int hb] at h2
    have : t.index = 0 := of_decide_eq_true h2
    exact ⟨.inl hb, by omega, by omega⟩
  · rw [argB_data hb] at h2
    have := of_decide_eq_true h2
    exact ⟨.inr ⟨this.1, this.2.1⟩, by omega, this.2.2.2⟩

/-- The text of a type, or none. -/
noncomputable def ftT (l : List Da) (t : Ty) : ByteArray := if dec (TyOK l t) then tyT l t else ⟨#[]⟩
theorem ftT_yes {l : List Da} {t : Ty} (h : TyOK l t) : ftT l t = tyT l t := by unfold ftT; rw [dec_t h]; rfl
theorem ftT_no {l : List Da} {t : Ty} (h : ¬ TyOK l t) : ftT l t = ⟨#[]⟩ := by unfold ftT; rw [dec_f h]; rfl
theorem ftype_spec (A : Option Addr) (l : List Da) (cap : Nat) (t : Ty) (w : World) (hr : RDas w w.heap.size A l) :
    Calls Tryd.prog 7 #[.slice A l.length cap, .agg #[.int .i64 t.data, .int .i64 t.index]] w fun e w' => e = .returned (.string (ftT l t)) ∧ Below w.heap.size w w' := by
  have Hr := Lib.hid hr
  clear hr
  by_cases h : TyOK l t
  · have HT := Lib.hid (ftT_yes h)
    have HS := Lib.hid (world_short h.1)
    have HI := Lib.hid (ok_in h)
    go_enter Tryd.func7, Tryd.ntmps7
    go_wp2_with (first | (go_at_call 19; refine (typeV_yes (t := t) (by exact Hr.out.keep (keep_one _) (by simp)) h).mono ?_; rintro e w1 ⟨rfl, hb⟩; obtain ⟨hc, hfz⟩ := bcell hb; have hb1 := below_one hb) | (go_at_call 20; refine (type_any _ l _ t _ _ (by exact Hr.out.keep (fun p hp => hb1.cell hp) hb1.size) HS.out HI.out rfl).mono ?_; rintro e w2 ⟨rfl, hb2'⟩; have hb2 := hb1.trans (hb2'.mono hb1.size)))
    go_ret
    exact ⟨ret_str HT.out.symm, hb2⟩
  · have HT := Lib.hid (ftT_no h)
    go_enter Tryd.func7, Tryd.ntmps7
    go_wp2_with (go_at_call 19; refine (typeV_no (t := t) (by exact Hr.out.keep (keep_one _) (by simp)) h).mono ?_; rintro e w1 ⟨rfl, hb⟩; have hb1 := below_one hb; clear hb)
    go_ret
    exact ⟨ret_str HT.out.symm, hb1⟩
theorem ftype_impl (A : Option Addr) (l : List Da) (cap : Nat) (t : Ty) (w : World) (hr : RDas w w.heap.size A l) :
    Calls Tryd.prog 10 #[.slice A l.length cap, .agg #[.int .i64 t.data, .int .i64 t.index]] w fun e w' => e = .returned (.string (ftT l t)) ∧ Below w.heap.size w w' := by
  have Hr := Lib.hid hr
  clear hr
  by_cases h : TyOK l t
  · have HT := Lib.hid (ftT_yes h)
    have HS := Lib.hid (world_short h.1)
    have HI := Lib.hid (ok_in h)
    go_enter Tryd.func10, Tryd.ntmps10
    go_wp2_with (first | (go_at_call 22; refine (typeI_yes (t := t) (by exact Hr.out.keep (keep_one _) (by simp)) h).mono ?_; rintro e w1 ⟨rfl, hb⟩; obtain ⟨hc, hfz⟩ := bcell hb; have hb1 := below_one hb) | (go_at_call 23; refine (typeT_impl _ l _ t _ _ (by exact Hr.out.keep (fun p hp => hb1.cell hp) hb1.size) HS.out HI.out rfl).mono ?_; rintro e w2 ⟨rfl, hb2'⟩; have hb2 := hb1.trans (hb2'.mono hb1.size)))
    go_ret
    exact ⟨ret_str HT.out.symm, hb2⟩
  · have HT := Lib.hid (ftT_no h)
    go_enter Tryd.func10, Tryd.ntmps10
    go_wp2_with (go_at_call 22; refine (typeI_no (t := t) (by exact Hr.out.keep (keep_one _) (by simp)) h).mono ?_; rintro e w1 ⟨rfl, hb⟩; have hb1 := below_one hb; clear hb)
    go_ret
    exact ⟨ret_str HT.out.symm, hb1⟩
end Go.Proofs.YthebdlejoficmaaDoor
