/-
  The texts of types: the program's functions, and FormatType of the program and of the document. No statement is proved here.
-/
import Derived.Test.YthebdlejoficmabDoorG01
import Derived.Test.YthebdlejoficmabDoorSShelf
import Derived.Deep.RegionHeld3
import Derived.Deep.RegionWith
namespace Go.Proofs.YthebdlejoficmabDoor
open Go.RowKit Go.Deep
set_option maxRecDepth 100000
set_option linter.unusedVariables false

theorem dig_small {n : Nat} (h : n < 10) : (⟨(Lib.decDigits n).toArray⟩ : ByteArray) = dig n := by
  rcases (by omega : n = 0 ∨ n = 1 ∨ n = 2 ∨ n = 3 ∨ n = 4 ∨ n = 5 ∨ n = 6 ∨ n = 7 ∨ n = 8 ∨ n = 9) with rfl | rfl | rfl | rfl | rfl | rfl | rfl | rfl | rfl | rfl <;> (first | rfl | (unfold Lib.decDigits; rfl) | decide +kernel)
theorem ixI_any (i : Int) (w : World) (h0 : -1 ≤ i) (h9 : i ≤ 9) :
    Calls Tryd.prog 40 #[.int .i64 i] w fun e w' => e = .returned (.string (ixT i)) ∧ w = w' := by
  by_cases h1 : i = 0
  · have q := ieq_t h1
    have HD : Hid (ixT i = ⟨#[]⟩) := if_pos h1
    clear h1
    go_enter Tryd.func40, Tryd.ntmps40
    go_wp2_with fail
    go_ret
    exact ⟨ret_str HD.out.symm, rfl⟩
  · by_cases h2 : i = -1
    · have q := ieq_f h1
      have q2 := ieq_t h2
      have HD : Hid (ixT i = ⟨#[42]⟩) := by unfold Hid ixT; rw [if_neg h1, if_pos h2]
      clear h1 h2
      go_enter Tryd.func40, Tryd.ntmps40
      go_wp2_with fail
      go_ret
      exact ⟨ret_str HD.out.symm, rfl⟩
    · have q := ieq_f h1
      have q2 := ieq_f h2
      have HD : Hid (ixT i = dig i) := by unfold Hid ixT; rw [if_neg h1, if_neg h2]
      obtain ⟨n, rfl⟩ : ∃ n : Nat, i = n := ⟨i.toNat, by omega⟩
      have HN := Lib.hid (dig_small (n := n) (by omega))
      have hn : n < 100 := by omega
      clear h1 h2
      go_enter Tryd.func40, Tryd.ntmps40
      go_wp2_with fail
      refine (Tryd.strconv_Itoa_small n hn _).mono ?_
      rintro e w1 ⟨rfl, rfl⟩
      go_wp2_with fail
      go_ret
      exact ⟨ret_str (by rw [HD.out, HN.out]), rfl⟩

theorem typeI_int (A : Option Addr) (n cap : Nat) (i : Int) (w : World) :
    Calls Tryd.prog 34 #[.slice A n cap, .agg #[.int .i64 (-1), .int .i64 i]] w fun e w' => e = .returned (.string ⟨#[73]⟩) ∧ Below w.heap.size w w' := by
  have HB : Hid (∀ o : Obj, Below w.heap.size w (w.alloc o)) := fun o => (Below.refl _ _).alloc (Nat.le_refl _) _
  go_enter Tryd.func34, Tryd.ntmps34
  go_wp2_with fail
  go_ret
  exact ⟨rfl, HB.out _⟩
theorem ixI_below (i : Int) (w : World) (h0 : -1 ≤ i) (h9 : i ≤ 9) :
    Calls Tryd.prog 40 #[.int .i64 i] w fun e w' => e = .returned (.string (ixT i)) ∧ Below w.heap.size w w' :=
  (ixI_any i w h0 h9).mono fun e w' ⟨h, h'⟩ => ⟨h, by subst h'; exact Below.refl _ _⟩
set_option maxHeartbeats 800000 in
theorem typeI_data (A : Option Addr) (l : List Da) (cap d : Nat) (i : Int) (w : World) (hr : RDas w w.heap.size A l) (hd : d < l.length) (hn : l[d].name.size ≤ 100) (h0 : -1 ≤ i) (h9 : i ≤ 9) :
    Calls Tryd.prog 34 #[.slice A l.length cap, .agg #[.int .i64 d, .int .i64 i]] w fun e w' => e = .returned (.string (l[d].name ++ ixT i)) ∧ Below w.heap.size w w' := by
  have hm := hr.1
  unfold maxLen at hm
  obtain ⟨b, off, rfl, hbB, A', cp, c0, c1, _, _⟩ := hr.2 d hd
  clear hr c1
  have q0 : ((d : Int) == -1) = false := ieq_f (by omega)
  have hdI : (d : Int) < (l.length : Int) := by omega
  have hd0 : (0 : Int) ≤ (d : Int) := Int.natCast_nonneg _
  have hxs := ixT_size i
  generalize hw0 : w.alloc (.cells #[.int .i64 d, .int .i64 i] 39) = w0
  have x0 : w0.cell? ⟨w.heap.size, 0, none⟩ = some (.int .i64 d) := by rw [← hw0]; simp [go_sem]
  have x1 : w0.cell? ⟨w.heap.size, 1, none⟩ = some (.int .i64 i) := by rw [← hw0]; simp [go_sem]
  have x2 : w0.cell? ⟨b, off + d * 2, none⟩ = some (.string l[d].name) := by rw [← hw0]; exact (World.cell?_alloc_lt _ _ _ hbB).trans c0
  have hb0 : Below w.heap.size w w0 := by rw [← hw0]; exact (Below.refl _ _).alloc (Nat.le_refl _) _
  have HW := Lib.hid hw0
  clear hw0 c0
  go_enter Tryd.func34, Tryd.ntmps34
  go_wp2_with fail
  rw [HW.out]
  have hadd : ∀ w : World, (Op.stringOp .add l[d].name (ixT i)).run Tryd.prog w = .ok (.string (l[d].name ++ ixT i)) w := fun w => run_string_add_sum w _ _ (by omega)
  go_region_held3 (fun w' => w'.cell? ⟨w.heap.size, 0, none⟩ = some (.int .i64 d) ∧ w'.cell? ⟨w.heap.size, 1, none⟩ = some (.int .i64 i) ∧ w'.cell? ⟨b, off + d * 2, none⟩ = some (.string l[d].name)) (first | exact ⟨x0, x1, x2⟩ | exact ⟨y0, y1, y2⟩ | go_keep) (first | (go_at_call 40; refine (ixI_below _ _ h0 h9).mono ?_; rintro e w1 ⟨rfl, hb1⟩; have hb1' : Below w0.heap.size w0 w1 := ⟨hb1.os, hb1.tape, hb1.output, hb1.size, hb1.block⟩; have y0 := (hb1'.cell (p := ⟨w.heap.size, 0, none⟩) (Go.block_lt_of_cell x0)).trans x0; have y1 := (hb1'.cell (p := ⟨w.heap.size, 1, none⟩) (Go.block_lt_of_cell x1)).trans x1; have y2 := (hb1'.cell (p := ⟨b, off + d * 2, none⟩) (Go.block_lt_of_cell x2)).trans x2))
  have hbF := below_after hb0 hb1' hb0.size
  go_wp2_with fail
  go_ret
  exact ⟨rfl, hbF⟩
theorem typeT_impl (A : Option Addr) (l : List Da) (cap : Nat) (t : Ty) (s : ByteArray) (w : World) (hr : RDas w w.heap.size A l) (hs : Short l) (ht : ArgIn l.length t) (he : tyT l t = s) :
    Calls Tryd.prog 34 #[.slice A l.length cap, .agg #[.int .i64 t.data, .int .i64 t.index]] w fun e w' => e = .returned (.string s) ∧ Below w.heap.size w w' := by
  subst he
  obtain ⟨d, i⟩ := t
  by_cases h : d = -1
  · subst h
    rw [tyT_int rfl]
    exact typeI_int A l.length cap i w
  · have h1 := ht.1.resolve_left h
    simp only at h1
    obtain ⟨k, rfl⟩ : ∃ k : Nat, d = k := ⟨d.toNat, by omega⟩
    rw [tyT_data (by omega : k < l.length)]
    exact typeI_data A l cap k i w hr (by omega) (hs k (by omega)) ht.2.1 (by have := ht.2.2; simp only at this; omega)
theorem ok_in {l : List Da} {t : Ty} (h : TyOK l t) : ArgIn l.length t := by
  have h2 := h.2
  by_cases hb : t.data = -1
  · rw [argB_int hb] at h2
    have : t.index = 0 := of_decide_eq_true h2
    exact ⟨.inl hb, by omega, by omega⟩
  · rw [argB_data hb] at h2
    have := of_decide_eq_true h2
    exact ⟨.inr ⟨this.1, this.2.1⟩, by omega, this.2.2.2⟩

/-- The text of a type, or none. -/
noncomputable def ftT (l : List Da) (t : Ty) : ByteArray := if dec (TyOK l t) then tyT l t else ⟨#[]⟩
theorem ftT_yes {l : List Da} {t : Ty} (h : TyOK l t) : ftT l t = tyT l t := by unfold ftT; rw [dec_t h]; rfl
theorem ftT_no {l : List Da} {t : Ty} (h : ¬ TyOK l t) : ftT l t = ⟨#[]⟩ := by unfold ftT; rw [dec_f h]; rfl
theorem ftype_spec (A : Option Addr) (l : List Da) (cap : Nat) (t : Ty) (w : World) (hr : RDas w w.heap.size A l) :
    Calls Tryd.prog 16 #[.slice A l.length cap, .agg #[.int .i64 t.data, .int .i64 t.index]] w fun e w' => e = .returned (.string (ftT l t)) ∧ Below w.heap.size w w' := by
  have Hr := Lib.hid hr
  clear hr
  by_cases h : TyOK l t
  · have HT := Lib.hid (ftT_yes h)
    have HS := Lib.hid (world_short h.1)
    have HI := Lib.hid (ok_in h)
    go_enter Tryd.func16, Tryd.ntmps16
    go_wp2_with (first | (go_at_call 35; refine (typeV_yes (t := t) (by exact Hr.out.keep (keep_one _) (by simp)) h).mono ?_; rintro e w1 ⟨rfl, hb⟩; obtain ⟨hc, hfz⟩ := bcell hb; have hb1 := below_one hb) | (go_at_call 36; refine (type_any _ l _ t _ _ (by exact Hr.out.keep (fun p hp => hb1.cell hp) hb1.size) HS.out HI.out rfl).mono ?_; rintro e w2 ⟨rfl, hb2'⟩; have hb2 := hb1.trans (hb2'.mono hb1.size)))
    go_ret
    exact ⟨ret_str HT.out.symm, hb2⟩
  · have HT := Lib.hid (ftT_no h)
    go_enter Tryd.func16, Tryd.ntmps16
    go_wp2_with (go_at_call 35; refine (typeV_no (t := t) (by exact Hr.out.keep (keep_one _) (by simp)) h).mono ?_; rintro e w1 ⟨rfl, hb⟩; have hb1 := below_one hb; clear hb)
    go_ret
    exact ⟨ret_str HT.out.symm, hb1⟩
theorem ftype_impl (A : Option Addr) (l : List Da) (cap : Nat) (t : Ty) (w : World) (hr : RDas w w.heap.size A l) :
    Calls Tryd.prog 15 #[.slice A l.length cap, .agg #[.int .i64 t.data, .int .i64 t.index]] w fun e w' => e = .returned (.string (ftT l t)) ∧ Below w.heap.size w w' := by
  have Hr := Lib.hid hr
  clear hr
  by_cases h : TyOK l t
  · have HT := Lib.hid (ftT_yes h)
    have HS := Lib.hid (world_short h.1)
    have HI := Lib.hid (ok_in h)
    go_enter Tryd.func15, Tryd.ntmps15
    go_wp2_with (first | (go_at_call 17; refine (typeI_yes (t := t) (by exact Hr.out.keep (keep_one _) (by simp)) h).mono ?_; rintro e w1 ⟨rfl, hb⟩; obtain ⟨hc, hfz⟩ := bcell hb; have hb1 := below_one hb) | (go_at_call 34; refine (typeT_impl _ l _ t _ _ (by exact Hr.out.keep (fun p hp => hb1.cell hp) hb1.size) HS.out HI.out rfl).mono ?_; rintro e w2 ⟨rfl, hb2'⟩; have hb2 := hb1.trans (hb2'.mono hb1.size)))
    go_ret
    exact ⟨ret_str HT.out.symm, hb2⟩
  · have HT := Lib.hid (ftT_no h)
    go_enter Tryd.func15, Tryd.ntmps15
    go_wp2_with (go_at_call 17; refine (typeI_no (t := t) (by exact Hr.out.keep (keep_one _) (by simp)) h).mono ?_; rintro e w1 ⟨rfl, hb⟩; have hb1 := below_one hb; clear hb)
    go_ret
    exact ⟨ret_str HT.out.symm, hb1⟩
end Go.Proofs.YthebdlejoficmabDoor
/-
  Different types of a world have different texts: plain mathematics. No statement is proved here.
-/
namespace Go.Proofs.YthebdlejoficmabDoor
open Go.RowKit Go.Deep
set_option maxRecDepth 100000
set_option linter.unusedVariables false

theorem name_inj {l : List Da} (h : WorldOK l) {a b : Nat} (ha : a < l.length) (hb : b < l.length) (e : l[a].name = l[b].name) : a = b := by
  rcases Nat.lt_trichotomy a b with hlt | rfl | hlt
  · exact absurd ⟨a, ha, hlt, by rw [e]⟩ (h.2.2 b hb hb).1
  · rfl
  · exact absurd ⟨b, hb, hlt, by rw [e]⟩ (h.2.2 a ha ha).1
theorem data_nm {l : List Da} (h : WorldOK l) {a : Nat} (ha : a < l.length) : l[a].name.data.toList.length = 1 ∧ ¬ l[a].name.data.toList = [73] := by
  have h1 := h.2.1 a ha ha
  unfold dataB dnameB at h1
  simp only [Bool.and_eq_true, decide_eq_true_eq] at h1
  refine ⟨by have := h1.1.1; simpa using this, ?_⟩
  have := h1.1.2.2
  rwa [ByteArray.toList_eq] at this
theorem ixT_list : (ixT 0).data.toList = [] ∧ (ixT 1).data.toList = [49] ∧ (ixT 2).data.toList = [50] ∧ (ixT 3).data.toList = [51] := ⟨rfl, rfl, rfl, rfl⟩
theorem ixT_inj {i j : Int} (hi : 0 ≤ i ∧ i ≤ 3) (hj : 0 ≤ j ∧ j ≤ 3) (e : (ixT i).data.toList = (ixT j).data.toList) : i = j := by
  obtain ⟨e0, e1, e2, e3⟩ := ixT_list
  rcases (by omega : i = 0 ∨ i = 1 ∨ i = 2 ∨ i = 3) with rfl | rfl | rfl | rfl <;> rcases (by omega : j = 0 ∨ j = 1 ∨ j = 2 ∨ j = 3) with rfl | rfl | rfl | rfl <;> first | rfl | (rw [e0, e1] at e; cases e) | (rw [e0, e2] at e; cases e) | (rw [e0, e3] at e; cases e) | (rw [e1, e0] at e; cases e) | (rw [e1, e2] at e; cases e) | (rw [e1, e3] at e; cases e) | (rw [e2, e0] at e; cases e) | (rw [e2, e1] at e; cases e) | (rw [e2, e3] at e; cases e) | (rw [e3, e0] at e; cases e) | (rw [e3, e1] at e; cases e) | (rw [e3, e2] at e; cases e)
theorem ok_idx {l : List Da} {t : Ty} (h : TyOK l t) : 0 ≤ t.index ∧ t.index ≤ 3 ∧ (t.data = -1 → t.index = 0) := by
  have h2 := h.2
  by_cases hb : t.data = -1
  · rw [argB_int hb] at h2
    have : t.index = 0 := of_decide_eq_true h2
    exact ⟨by omega, by omega, fun _ => this⟩
  · rw [argB_data hb] at h2
    have := of_decide_eq_true h2
    exact ⟨by omega, by omega, fun e => absurd e hb⟩
theorem tyT_list {l : List Da} {d : Nat} {i : Int} (hd : d < l.length) : (tyT l ⟨d, i⟩).data.toList = l[d].name.data.toList ++ (ixT i).data.toList := by
  rw [tyT_data hd]; simp
theorem tyT_ne {l : List Da} {d : Nat} {i : Int} (h : WorldOK l) (hd : d < l.length) : ¬ (tyT l ⟨d, i⟩).data.toList = [73] := by
  intro e
  rw [tyT_list hd] at e
  obtain ⟨h1, h2⟩ := data_nm h hd
  have h3 := List.append_inj (t₁ := (ixT i).data.toList) (t₂ := []) (s₁ := l[d].name.data.toList) (s₂ := [73]) (by simpa using e) (by simpa using h1)
  exact h2 h3.1
theorem ba_ext' {a b : ByteArray} (h : a.data.toList = b.data.toList) : a = b := by
  cases a; cases b
  simp only at h
  congr 1
  exact Array.ext' h
theorem tyT_inj {l : List Da} {t u : Ty} (ht : TyOK l t) (hu : TyOK l u) (e : tyT l t = tyT l u) : t = u := by
  obtain ⟨a, i⟩ := t
  obtain ⟨b, j⟩ := u
  have ht2 := ok_idx ht
  have hu2 := ok_idx hu
  simp only at ht2 hu2
  have hI : (ByteArray.mk #[73]).data.toList = [73] := rfl
  rcases ty_cases ht with h1 | ⟨x, h1, hx⟩ <;> rcases ty_cases hu with h2 | ⟨y, h2, hy⟩ <;> simp only at h1 h2 <;> subst h1 <;> subst h2
  · rw [ht2.2.2 rfl, hu2.2.2 rfl]
  · have e' : (tyT l _).data.toList = (tyT l _).data.toList := congrArg (fun z : ByteArray => z.data.toList) e
    rw [tyT_int rfl, hI] at e'
    exact absurd e'.symm (tyT_ne ht.1 hy)
  · have e' : (tyT l _).data.toList = (tyT l _).data.toList := congrArg (fun z : ByteArray => z.data.toList) e
    rw [tyT_int (t := ⟨-1, j⟩) rfl, hI] at e'
    exact absurd e' (tyT_ne ht.1 hx)
  · have e' : (tyT l _).data.toList = (tyT l _).data.toList := congrArg (fun z : ByteArray => z.data.toList) e
    rw [tyT_list hx, tyT_list hy] at e'
    have h3 := List.append_inj e' (by rw [(data_nm ht.1 hx).1, (data_nm ht.1 hy).1])
    have hn : l[x].name = l[y].name := ba_ext' h3.1
    have hxy := name_inj ht.1 hx hy hn
    subst hxy
    rw [ixT_inj ⟨ht2.1, ht2.2.1⟩ ⟨hu2.1, hu2.2.1⟩ h3.2]
theorem tyT_some {l : List Da} {t : Ty} (ht : TyOK l t) : ¬ (tyT l t).size = 0 := by
  obtain ⟨a, i⟩ := t
  intro e
  have e' : (tyT l ⟨a, i⟩).data.toList.length = 0 := by simpa using e
  rcases ty_cases ht with h1 | ⟨x, h1, hx⟩ <;> simp only at h1 <;> subst h1
  · rw [tyT_int rfl] at e'; cases e'
  · rw [tyT_list hx, List.length_append, (data_nm ht.1 hx).1] at e'; omega
end Go.Proofs.YthebdlejoficmabDoor
/-
  Texts with something between them: plain mathematics, and strings.Join. No statement is proved here.
-/
namespace Go.Proofs.YthebdlejoficmabDoor
open Go.RowKit Go.Deep
set_option maxRecDepth 100000
set_option linter.unusedVariables false

theorem ba_ext {a b : ByteArray} (h : a.data.toList = b.data.toList) : a = b := by
  cases a; cases b
  simp only at h
  congr 1
  exact Array.ext' h
theorem ba_append (a b : ByteArray) : (a ++ b).data.toList = a.data.toList ++ b.data.toList := by simp
def joinB (ts : List ByteArray) (sep : ByteArray) : ByteArray := ⟨(Lib.join (ts.map (·.data.toList)) sep.data.toList).toArray⟩
theorem joinB_list (ts : List ByteArray) (sep : ByteArray) : (joinB ts sep).data.toList = Lib.join (ts.map (·.data.toList)) sep.data.toList := by simp [joinB]
theorem joinB_nil (sep : ByteArray) : joinB [] sep = ⟨#[]⟩ := rfl
theorem joinB_one (x sep : ByteArray) : joinB [x] sep = x := ba_ext (by rw [joinB_list]; exact Lib.join_one _ _)
theorem join_snoc (ts : List (List UInt8)) (y sep : List UInt8) (h : ts ≠ []) : Lib.join (ts ++ [y]) sep = Lib.join ts sep ++ (sep ++ y) := by
  cases ts with
  | nil => exact absurd rfl h
  | cons x r =>
    rw [List.cons_append, Lib.join_cons, Lib.join_cons]
    simp [Lib.joinTail, List.append_assoc]
theorem joinB_snoc (ts : List ByteArray) (y sep : ByteArray) (h : ts ≠ []) : joinB (ts ++ [y]) sep = (joinB ts sep ++ sep) ++ y := by
  refine ba_ext ?_
  rw [ba_append, ba_append, joinB_list, joinB_list, List.map_append, List.map_cons, List.map_nil, join_snoc _ _ _ (by simpa using h), List.append_assoc]
theorem joinB_size (sep : ByteArray) (m : Nat) : ∀ ts : List ByteArray, (∀ t ∈ ts, t.size ≤ m) → (joinB ts sep).size ≤ ts.length * (m + sep.size) := by
  have key : ∀ ts : List ByteArray, (∀ t ∈ ts, t.size ≤ m) → (Lib.join (ts.map (·.data.toList)) sep.data.toList).length ≤ ts.length * (m + sep.size) := by
    intro ts h
    cases ts with
    | nil => simp [Lib.join_nil]
    | cons x r =>
      rw [List.map_cons, Lib.join_cons, List.length_append]
      have hx := h x (List.mem_cons_self)
      have hr : (Lib.joinTail sep.data.toList (r.map (·.data.toList))).length ≤ r.length * (m + sep.size) := by
        have h' : ∀ t ∈ r, t.size ≤ m := fun t ht => h t (List.mem_cons_of_mem _ ht)
        clear h hx
        induction r with
        | nil => simp [Lib.joinTail]
        | cons y r ih =>
          have h1 := ih (fun t ht => h' t (List.mem_cons_of_mem _ ht))
          have h2 := h' y (List.mem_cons_self)
          have e : Lib.joinTail sep.data.toList ((y :: r).map (·.data.toList)) = (sep.data.toList ++ y.data.toList) ++ Lib.joinTail sep.data.toList (r.map (·.data.toList)) := by simp [Lib.joinTail]
          rw [e, List.length_append, List.length_append, List.length_cons, Nat.add_mul, Nat.one_mul]
          have e1 : sep.data.toList.length = sep.size := by simp
          have e2 : y.data.toList.length = y.size := by simp
          omega
      have e2 : x.data.toList.length = x.size := by simp
      rw [List.length_cons, Nat.add_mul, Nat.one_mul]
      omega
  intro ts h
  have e : (joinB ts sep).size = (Lib.join (ts.map (·.data.toList)) sep.data.toList).length := by simp [joinB, ByteArray.size]
  rw [e]
  exact key ts h

/-! The document's texts, told by joins. -/
theorem argAcc_join {l : List Da} {c : Ct} : ∀ k, k < c.args.length → argAcc l c (k + 1) = (c.name ++ ⟨#[40]⟩) ++ joinB ((c.args.take (k + 1)).map (tyT l)) ⟨#[44]⟩
  | 0, h => by
    rw [argAcc_at h, if_pos rfl, List.take_succ_eq_append_getElem h]
    show _ = _ ++ joinB [tyT l c.args[0]] _
    rw [joinB_one]; rfl
  | k + 1, h => by
    rw [argAcc_at h, if_neg (by omega), argAcc_join k (by omega), List.take_succ_eq_append_getElem h, List.map_append, List.map_cons, List.map_nil, joinB_snoc _ _ _ (by
      intro e
      have h1 := congrArg List.length e
      rw [List.length_map, List.length_take] at h1
      simp only [List.length_nil] at h1
      omega)]
    simp only [ByteArray.append_assoc]
theorem ctT2_join {l : List Da} {c : Ct} (h : 0 < c.args.length) : ctT2 l c = ((c.name ++ ⟨#[40]⟩) ++ joinB (c.args.map (tyT l)) ⟨#[44]⟩) ++ ⟨#[41]⟩ := by
  unfold ctT2
  rw [if_pos h]
  have := argAcc_join (l := l) (c := c) (c.args.length - 1) (by omega)
  rw [show c.args.length - 1 + 1 = c.args.length by omega, List.take_length] at this
  rw [this]
theorem ctT2_none {l : List Da} {c : Ct} (h : c.args.length = 0) : ctT2 l c = c.name := by
  unfold ctT2
  rw [if_neg (by omega), h]; rfl
theorem ctsAcc_join {l : List Da} {base : ByteArray} {cs : List Ct} : ∀ k, k ≤ cs.length → ctsAcc l base cs k = base ++ joinB ((cs.take k).map (ctT l)) ⟨#[124]⟩
  | 0, _ => by
    show base = base ++ joinB [] _
    rw [joinB_nil]; exact (ba_ext (by rw [ba_append]; simp)).symm
  | k + 1, h => by
    rw [ctsAcc_at (by omega), ctsAcc_join k (by omega), List.take_succ_eq_append_getElem (by omega), List.map_append, List.map_cons, List.map_nil]
    by_cases h0 : k = 0
    · subst h0
      rw [if_pos rfl]
      show (base ++ joinB [] _) ++ _ = base ++ joinB [ctT l cs[0]] _
      rw [joinB_one, joinB_nil]
      exact ba_ext (by rw [ba_append, ba_append, ba_append]; simp)
    · rw [if_neg h0, joinB_snoc _ _ _ (by
        intro e
        have h1 := congrArg List.length e
        rw [List.length_map, List.length_take] at h1
        simp only [List.length_nil] at h1
        omega)]
      simp only [ByteArray.append_assoc]
def daT (l : List Da) (d : Da) : ByteArray := (d.name ++ ⟨#[61]⟩) ++ joinB (d.ctors.map (ctT l)) ⟨#[124]⟩
theorem wAcc_join {l : List Da} : ∀ k, k ≤ l.length → wAcc l k = joinB ((l.take k).map (daT l)) ⟨#[59]⟩
  | 0, _ => rfl
  | k + 1, h => by
    rw [wAcc_at (by omega), ctsAcc_join _ (Nat.le_refl _), List.take_length, wAcc_join k (by omega), List.take_succ_eq_append_getElem (by omega), List.map_append, List.map_cons, List.map_nil]
    unfold headT daT
    by_cases h0 : k = 0
    · subst h0
      rw [if_pos rfl]
      show ((joinB [] _ ++ _) ++ _) ++ _ = joinB [_] _
      rw [joinB_one, joinB_nil]
      exact ba_ext (by simp only [ba_append]; simp)
    · rw [if_neg h0, joinB_snoc _ _ _ (by
        intro e
        have h1 := congrArg List.length e
        rw [List.length_map, List.length_take] at h1
        simp only [List.length_nil] at h1
        omega)]
      simp only [ByteArray.append_assoc]
theorem wT_join (l : List Da) : wT l = joinB (l.map (daT l)) ⟨#[59]⟩ := by
  unfold wT
  rw [wAcc_join _ (Nat.le_refl _), List.take_length]

/-- What the first k rounds have left in a row of texts. -/
def StRow (ts : List ByteArray) (xs : List Value) (k : Nat) : Prop := ∀ j (h : j < ts.length), j < k → xs[j]? = some (.string ts[j])
theorem StRow.zero (ts : List ByteArray) (xs : List Value) : StRow ts xs 0 := fun j _ h => absurd h (by omega)
theorem StRow.step {ts : List ByteArray} {xs : List Value} {k : Nat} (h : StRow ts xs k) (hk : k < ts.length) (hx : xs.length = ts.length) : StRow ts (xs.set k (.string ts[k])) (k + 1) := by
  intro j hj hjk
  by_cases e : j = k
  · subst e
    rw [List.getElem?_set_self (by omega)]
  · rw [List.getElem?_set_ne (by omega)]
    exact h j hj (by omega)
/-- strings.Join of a row of the call's own. -/
theorem join_row (ts : List ByteArray) (sep : ByteArray) (g lo cap : Nat) (xs : List Value) (w : World) (hown : w.ownsRow lo 9 1 (.slice (some ⟨g, 0, none⟩) ts.length cap) ts.length xs) (hrow : StRow ts xs ts.length) (hcap : ts.length ≤ cap) (hn : ts.length ≤ 1000) (hm : ∀ t ∈ ts, t.size ≤ 100000) (hsep : sep.size ≤ 10) :
    Calls Tryd.prog 26 #[.slice (some ⟨g, 0, none⟩) ts.length cap, .string sep] w fun e w' => e = .returned (.string (joinB ts sep)) ∧ Below w.heap.size w w' := by
  have hz := joinB_size sep 100000 ts hm
  have hz2 : ts.length * (100000 + sep.size) ≤ 1000 * (100000 + 10) := Nat.mul_le_mul hn (by omega)
  have e : (joinB ts sep).size = (Lib.join (ts.map (·.data.toList)) sep.data.toList).length := by simp [joinB, ByteArray.size]
  refine (Tryd.strings_Join g 0 cap ts sep w ?_ (own_lt hown) (by omega) hcap (by omega)).mono ?_
  · intro j x hj
    obtain ⟨hjl, rfl⟩ := List.getElem?_eq_some_iff.1 hj
    have := hown.cellAt j (by omega)
    rw [Nat.zero_add, this]
    exact hrow j hjl hjl
  · rintro e w1 ⟨rfl, hb⟩
    exact ⟨rfl, hb⟩
end Go.Proofs.YthebdlejoficmabDoor
/-
  The texts of constructors: the program's functions. No statement is proved here.
-/
namespace Go.Proofs.YthebdlejoficmabDoor
open Go.RowKit Go.Deep
set_option maxRecDepth 100000
set_option linter.unusedVariables false

/-- A name with texts in brackets behind it. -/
def twT (nm : ByteArray) (ts : List ByteArray) : ByteArray := if ts.length = 0 then nm else ((nm ++ ⟨#[40]⟩) ++ joinB ts ⟨#[44]⟩) ++ ⟨#[41]⟩
theorem twT_none {nm : ByteArray} {ts : List ByteArray} (h : ts.length = 0) : twT nm ts = nm := if_pos h
theorem twT_some {nm : ByteArray} {ts : List ByteArray} (h : ¬ ts.length = 0) : twT nm ts = ((nm ++ ⟨#[40]⟩) ++ joinB ts ⟨#[44]⟩) ++ ⟨#[41]⟩ := if_neg h
theorem twT_ct {l : List Da} {c : Ct} : twT c.name (c.args.map (tyT l)) = ctT2 l c := by
  by_cases h : c.args.length = 0
  · rw [twT_none (by rw [List.length_map]; exact h), ctT2_none h]
  · rw [twT_some (by rw [List.length_map]; exact h), ctT2_join (by omega)]

theorem twa_any (nm : ByteArray) (ts : List ByteArray) (g lo cap : Nat) (xs : List Value) (w : World) (hown : w.ownsRow lo 9 1 (.slice (some ⟨g, 0, none⟩) ts.length cap) ts.length xs) (hrow : StRow ts xs ts.length) (hcap : ts.length ≤ cap) (hn : ts.length ≤ 3) (hm : ∀ t ∈ ts, t.size ≤ 10000) (hnm : nm.size ≤ 100) :
    Calls Tryd.prog 39 #[.string nm, .slice (some ⟨g, 0, none⟩) ts.length cap] w fun e w' => e = .returned (.string (twT nm ts)) ∧ Below w.heap.size w w' := by
  by_cases h : ts.length = 0
  · have q := ieq_t (show (ts.length : Int) = 0 by omega)
    have HT := Lib.hid (twT_none (nm := nm) h)
    clear h hown hrow hm
    go_enter Tryd.func39, Tryd.ntmps39
    go_wp2_with fail
    go_ret
    exact ⟨ret_str HT.out.symm, Below.refl _ _⟩
  · have q := ieq_f (show ¬ (ts.length : Int) = 0 by omega)
    have HT := Lib.hid (twT_some (nm := nm) h)
    have HO := Lib.hid hown
    have HR := Lib.hid hrow
    have HM : Hid (∀ t ∈ ts, t.size ≤ 100000) := fun t ht => by have := hm t ht; omega
    have hz := joinB_size ⟨#[44]⟩ 10000 ts hm
    have hz2 : ts.length * (10000 + (ByteArray.mk #[44]).size) ≤ 3 * (10000 + 1) := Nat.mul_le_mul hn (Nat.le_refl _)
    have hz3 : (joinB ts ⟨#[44]⟩).size ≤ 30003 := by omega
    generalize hu : joinB ts ⟨#[44]⟩ = u at hz3 HT
    have HU := Lib.hid hu
    clear h hown hrow hm hz hz2 hu
    go_enter Tryd.func39, Tryd.ntmps39
    go_wp2_with fail
    refine (join_row ts ⟨#[44]⟩ g lo cap xs _ HO.out HR.out hcap (by omega) HM.out (by decide)).mono ?_
    rw [HU.out]
    rintro e w1 ⟨rfl, hb⟩
    go_wp2_with fail
    go_ret
    exact ⟨ret_str HT.out.symm, hb⟩

theorem info9s : (Tryd.prog.info? 9).map (fun i => (i.zero, i.size, i.bytes)) = some (some (.string ByteArray.empty), 1, 16) := by kernel_rfl

set_option maxHeartbeats 1600000 in
theorem ctorText_impl (A D : Option Addr) (l : List Da) (c : Ct) (cap ep : Nat) (w : World) (hr : RDas w w.heap.size A l) (ha : RTys w w.heap.size D c.args) (hs : Short l) (hc : CtIn l.length c) :
    Calls Tryd.prog 25 #[.slice A l.length cap, .agg #[.string c.name, .slice D c.args.length ep, .int .i64 c.index]] w fun e w' => e = .returned (.string (ctT l c)) ∧ Below w.heap.size w w' := by
  obtain ⟨i0, hi, hz0, hz1, hz2⟩ := info_parts info9s
  have Hr := Lib.hid hr
  have HA := Lib.hid ha
  have HS := Lib.hid hs
  have HC := Lib.hid hc
  have h3 := hc.2.1
  have hnm := hc.1
  have hi0 := hc.2.2.1
  have hi3 := hc.2.2.2.1
  have hT2 := ctT2_size hs hc
  have HTW := Lib.hid (twT_ct (l := l) (c := c))
  have HTM : Hid (∀ t ∈ c.args.map (tyT l), t.size ≤ 10000) := fun t ht => by
    obtain ⟨a, ha, rfl⟩ := List.mem_map.1 ht
    have := tyT_size HS.out (HC.out.2.2.2.2 a ha)
    omega
  have HG : Hid (∀ k (h : k < c.args.length) (h' : k < (c.args.map (tyT l)).length), (c.args.map (tyT l))[k] = tyT l c.args[k]) := fun k h h' => List.getElem_map _
  have HL : Hid ((c.args.map (tyT l)).length = c.args.length) := List.length_map _
  generalize hts : c.args.map (tyT l) = ts at HTW HTM HG HL
  clear hr ha hs hc hts
  generalize hw0 : w.alloc (.cells #[.string c.name, .slice D c.args.length ep, .int .i64 c.index] 27) = w0
  have x1 : w0.cell? ⟨w.heap.size, 1, none⟩ = some (.slice D c.args.length ep) := by rw [← hw0]; simp [go_sem]
  have HX : Hid (Box3 w0 w.heap.size c.name (.slice D c.args.length ep) c.index) := by rw [← hw0]; exact heap_alloc_new w _
  have hb0 : Below w.heap.size w w0 := by rw [← hw0]; exact (Below.refl _ _).alloc (Nat.le_refl _) _
  have HW := Lib.hid hw0
  clear hw0
  go_enter Tryd.func25, Tryd.ntmps25
  go_wp2_with (at_make; rw [HW.out]; refine wpList_make_full _ rfl _ _ 48 rfl w0.heap.size 9 i0 _ 1 Tryd.underlying48 hi hz0 hz1 _ _ _ _ c.args.length rfl rfl rfl rfl (by rw [hz2]; omega) (by unfold maxLen; omega) (Nat.le_refl _) ?_; intro w1 hown hgr; have hbg := below_of_grown hgr (Nat.le_refl _); have x1' := (hbg.cell (p := ⟨w.heap.size, 1, none⟩) (Go.block_lt_of_cell x1)).trans x1)
  go_loopw [16] (fun i wr => ∃ k : Nat, k ≤ c.args.length ∧ i = .int .i64 k ∧ ∃ xs, wr.ownsRow w0.heap.size 9 1 (.slice (some ⟨w0.heap.size, 0, none⟩) c.args.length c.args.length) c.args.length xs ∧ StRow ts xs k ∧ Below w0.heap.size w0 wr) (fun i _ => c.args.length - (intOf i).toNat)
  case atStart => exact ⟨0, by omega, rfl, _, hown, StRow.zero _ _, hbg⟩
  case round =>
    obtain ⟨k, hk, rfl, xs, hown, hrow, hb⟩ := hrel
    clear hgr hi hz0 hz1 hz2 x1' x1 hbg
    have hbx := HX.out.at_ hb
    have b0 := hbx.c0
    have b1 := hbx.c1
    have b2 := hbx.c2
    have hbw : Below w.heap.size w wr := below_after hb0 hb hb0.size
    have HO := Lib.hid hown
    have HRW := Lib.hid hrow
    clear hown hrow
    by_cases hlt : k < c.args.length
    · obtain ⟨g, o, rfl, hgB, y0, y1⟩ := (HA.out.below hbw (Nat.le_refl _)).2 k hlt
      have hgw : g < wr.heap.size := by have := hbw.size; omega
      have HIN := Lib.hid (HC.out.2.2.2.2 _ (List.getElem_mem hlt))
      have hkl : k < ts.length := by rw [HL.out]; exact hlt
      have HGK := Lib.hid (HG.out k hlt hkl)
      have HRr : Hid (∀ ob : Obj, RDas (wr.alloc ob) (wr.alloc ob).heap.size A l) := fun ob => Hr.out.keep (fun p hp => (World.cell?_alloc_lt _ _ _ (Nat.lt_of_lt_of_le hp hbw.size)).trans (hbw.cell hp)) (by have := hbw.size; simp; omega)
      have hwl : w0.heap.size < wr.heap.size := own_lt HO.out
      have hxl := HO.out.1
      go_wp2_with (go_at_call 34; refine (typeT_impl _ l _ c.args[k] (ts[k]) _ (HRr.out _) HS.out HIN.out HGK.out.symm).mono ?_; rintro e w2 ⟨rfl, hb2⟩; have hown2 := own_below (HO.out.alloc _) hb2; obtain ⟨v0, f0⟩ := own_cell hown2 k (by omega); have g0 := hown2.frozenAt k)
      have s1 := (hown2.stored k (.string ts[k])).1
      have hrow2 := HRW.out.step hkl (by rw [HL.out]; omega)
      have hb3 : Below w0.heap.size w0 w2 := hb.trans (((Below.refl _ _).alloc (Nat.le_refl _) _ |>.trans (hb2.mono (by simp))).mono hb.size)
      go_roundw
      case rel => exact ⟨k + 1, by omega, by go_num, _, s1, hrow2, hb3.setCell (Nat.le_refl _) _⟩
      case measure => simp [intOf]; omega
    · have he : k = c.args.length := by omega
      have HO' : Hid (wr.ownsRow w0.heap.size 9 1 (.slice (some ⟨w0.heap.size, 0, none⟩) ts.length ts.length) ts.length xs) := by unfold Hid; rw [HL.out]; exact HO.out
      have HRW' : Hid (StRow ts xs ts.length) := by unfold Hid; rw [HL.out, ← he]; exact HRW.out
      have hl3 : ts.length ≤ 3 := by rw [HL.out]; exact h3
      have hcl : Hid (c.args.length = ts.length) := HL.out.symm
      by_cases hx : 0 < c.index
      · have HT : Hid (ctT l c = (ctT2 l c ++ ⟨#[58]⟩) ++ dig c.index) := if_pos hx
        have HIX : Hid (ixT c.index = dig c.index) := by unfold Hid ixT; rw [if_neg (by omega), if_neg (by omega)]
        have hds := dig_size c.index
        generalize hdd : dig c.index = dd at hds HT HIX
        generalize ctT2 l c = t2 at hT2 HT HTW
        clear hdd he
        go_wp2_with (first | (go_at_call 39; rw [hcl.out]; refine (twa_any _ ts _ _ _ xs _ HO'.out HRW'.out (Nat.le_refl _) hl3 HTM.out hnm).mono ?_; rw [HTW.out]; rintro e w2 ⟨rfl, hb2⟩; have hb3 := below_after hb hb2 hb.size; have hbx2 := HX.out.at_ hb3; have e2 := hbx2.c2) | (go_at_call 40; refine (ixI_any _ _ (by omega) (by omega)).mono ?_; rw [HIX.out]; rintro e w3 ⟨rfl, rfl⟩))
        go_ret
        exact ⟨ret_str (by rw [HT.out, ByteArray.append_assoc]), below_after hb0 hb3 hb0.size⟩
      · have HT : Hid (ctT l c = ctT2 l c) := if_neg hx
        have hxI : c.index ≤ 0 := by omega
        generalize ctT2 l c = t2 at hT2 HT HTW
        clear he hx
        go_wp2_with (go_at_call 39; rw [hcl.out]; refine (twa_any _ ts _ _ _ xs _ HO'.out HRW'.out (Nat.le_refl _) hl3 HTM.out hnm).mono ?_; rw [HTW.out]; rintro e w2 ⟨rfl, hb2⟩; have hb3 := below_after hb hb2 hb.size; have hbx2 := HX.out.at_ hb3; have e2 := hbx2.c2)
        go_ret
        exact ⟨ret_str HT.out.symm, below_after hb0 hb3 hb0.size⟩
end Go.Proofs.YthebdlejoficmabDoor
/-
  The texts of worlds: FormatWorld of the program and of the document. No statement is proved here.
-/
namespace Go.Proofs.YthebdlejoficmabDoor
open Go.RowKit Go.Deep
set_option maxRecDepth 100000
set_option linter.unusedVariables false

theorem worldV_yes {A : Option Addr} {l : List Da} {cap : Nat} {w : World} (hr : RDas w w.heap.size A l) (h : WorldOK l) :
    Calls Tryd.prog 51 #[.slice A l.length cap] w fun e w' => e = .returned (.bool true) ∧ Below w.heap.size w w' := by rw [← dec_t h]; exact worldValid_spec A l cap w hr
theorem worldV_no {A : Option Addr} {l : List Da} {cap : Nat} {w : World} (hr : RDas w w.heap.size A l) (h : ¬ WorldOK l) :
    Calls Tryd.prog 51 #[.slice A l.length cap] w fun e w' => e = .returned (.bool false) ∧ Below w.heap.size w w' := by rw [← dec_f h]; exact worldValid_spec A l cap w hr
theorem worldI_yes {A : Option Addr} {l : List Da} {cap : Nat} {w : World} (hr : RDas w w.heap.size A l) (h : WorldOK l) :
    Calls Tryd.prog 9 #[.slice A l.length cap] w fun e w' => e = .returned (.bool true) ∧ Below w.heap.size w w' := by rw [← dec_t h]; exact worldValid_impl A l cap w hr
theorem worldI_no {A : Option Addr} {l : List Da} {cap : Nat} {w : World} (hr : RDas w w.heap.size A l) (h : ¬ WorldOK l) :
    Calls Tryd.prog 9 #[.slice A l.length cap] w fun e w' => e = .returned (.bool false) ∧ Below w.heap.size w w' := by rw [← dec_f h]; exact worldValid_impl A l cap w hr
/-- The text of a world, or none. -/
noncomputable def fwT (l : List Da) : ByteArray := if dec (WorldOK l) then wT l else ⟨#[]⟩
theorem fwT_yes {l : List Da} (h : WorldOK l) : fwT l = wT l := by unfold fwT; rw [dec_t h]; rfl
theorem fwT_no {l : List Da} (h : ¬ WorldOK l) : fwT l = ⟨#[]⟩ := by unfold fwT; rw [dec_f h]; rfl
theorem daT_size {l : List Da} (hw : WorldOK l) {k : Nat} (hk : k < l.length) : (daT l l[k]).size ≤ 3000 ∧ (joinB (l[k].ctors.map (ctT l)) ⟨#[124]⟩).size ≤ 2100 := by
  have hs := world_short hw
  have h4 := world_four hw hk
  have h1 := joinB_size ⟨#[124]⟩ 510 (l[k].ctors.map (ctT l)) (fun t ht => by
    obtain ⟨c, hc, rfl⟩ := List.mem_map.1 ht
    obtain ⟨m, hm, rfl⟩ := List.getElem_of_mem hc
    exact ctT_size hs (world_ct_in hw hk hm))
  rw [List.length_map] at h1
  have h2 : l[k].ctors.length * (510 + (ByteArray.mk #[124]).size) ≤ 4 * (510 + 1) := Nat.mul_le_mul h4 (Nat.le_refl _)
  have h3 := hs k hk
  unfold daT
  rw [ByteArray.size_append, ByteArray.size_append]
  have h5 : (ByteArray.mk #[61]).size = 1 := rfl
  omega

set_option maxHeartbeats 3000000 in
theorem fworld_yes (A : Option Addr) (l : List Da) (cap : Nat) (w : World) (hr : RDas w w.heap.size A l) (hw : WorldOK l) :
    Calls Tryd.prog 10 #[.slice A l.length cap] w fun e w' => e = .returned (.string (wT l)) ∧ Below w.heap.size w w' := by
  obtain ⟨i0, hi, hz0, hz1, hz2⟩ := info_parts info9s
  have hi' := hi
  have Hr := Lib.hid hr
  have HW := Lib.hid hw
  have hl4 := hw.1
  have HS := Lib.hid (world_short hw)
  have HJ := Lib.hid (wT_join l)
  have HTM : Hid (∀ t ∈ l.map (daT l), t.size ≤ 100000) := fun t ht => by
    obtain ⟨a, ha, rfl⟩ := List.mem_map.1 ht
    obtain ⟨k, hk, rfl⟩ := List.getElem_of_mem ha
    have := (daT_size hw hk).1
    omega
  have HG : Hid (∀ k (h : k < l.length) (h' : k < (l.map (daT l)).length), (l.map (daT l))[k] = daT l l[k]) := fun k h h' => List.getElem_map _
  have HL : Hid ((l.map (daT l)).length = l.length) := List.length_map _
  generalize hts : l.map (daT l) = ts at HJ HTM HG HL
  clear hr hw hts
  go_enter Tryd.func10, Tryd.ntmps10
  go_wp2_with (first | (go_at_call 9; refine (worldI_yes Hr.out HW.out).mono ?_; rintro e w1 ⟨rfl, hb1⟩) | (at_make; refine wpList_make_full _ rfl _ _ 48 rfl w1.heap.size 9 i0 _ 1 Tryd.underlying48 hi hz0 hz1 _ _ _ _ l.length rfl rfl rfl rfl (by rw [hz2]; omega) (by unfold maxLen; omega) (Nat.le_refl _) ?_; intro w2 hown hgr; have hbg := below_of_grown hgr (Nat.le_refl _)))
  go_loopw [17] (fun i wr => ∃ k : Nat, k ≤ l.length ∧ i = .int .i64 k ∧ ∃ xs, wr.ownsRow w1.heap.size 9 1 (.slice (some ⟨w1.heap.size, 0, none⟩) l.length l.length) l.length xs ∧ StRow ts xs k ∧ Below w1.heap.size w1 wr) (fun i _ => l.length - (intOf i).toNat)
  case atStart => exact ⟨0, by omega, rfl, _, hown, StRow.zero _ _, hbg⟩
  case round =>
    obtain ⟨k, hk, rfl, xs, hown, hrow, hb⟩ := hrel
    clear hgr hbg
    have hbw : Below w.heap.size w wr := below_after hb1 hb hb1.size
    have HO := Lib.hid hown
    have HRW := Lib.hid hrow
    clear hown hrow
    by_cases hlt : k < l.length
    · obtain ⟨b, off, rfl, hbB, A', cp, c0, c1, hszd, hmd⟩ := (Hr.out.below hbw (Nat.le_refl _)).2 k hlt
      have hm4 := world_four HW.out hlt
      have hnm := HS.out k hlt
      have hkl : k < ts.length := by rw [HL.out]; exact hlt
      have HGK := Lib.hid (HG.out k hlt hkl)
      have hwl : w1.heap.size < wr.heap.size := own_lt HO.out
      have hxl := HO.out.1
      have HMD : Hid (RCts w w.heap.size A' l[k].ctors) := hmd.keep (fun p hp => (hbw.cell hp).symm) (Nat.le_refl _)
      have hjz := (daT_size HW.out hlt).2
      have HDT : Hid (daT l l[k] = (l[k].name ++ ⟨#[61]⟩) ++ joinB (l[k].ctors.map (ctT l)) ⟨#[124]⟩) := rfl
      have HTM2 : Hid (∀ t ∈ l[k].ctors.map (ctT l), t.size ≤ 100000) := fun t ht => by
        obtain ⟨a, ha, rfl⟩ := List.mem_map.1 ht
        obtain ⟨j, hj, rfl⟩ := List.getElem_of_mem ha
        have := ctT_size HS.out (world_ct_in HW.out hlt hj)
        omega
      have HG2 : Hid (∀ j (h : j < l[k].ctors.length) (h' : j < (l[k].ctors.map (ctT l)).length), (l[k].ctors.map (ctT l))[j] = ctT l l[k].ctors[j]) := fun j h h' => List.getElem_map _
      have HL2 : Hid ((l[k].ctors.map (ctT l)).length = l[k].ctors.length) := List.length_map _
      generalize hts2 : l[k].ctors.map (ctT l) = ts2 at HDT HTM2 HG2 HL2 hjz
      clear hmd hts2
      generalize hwA : wr.alloc (.cells #[.string l[k].name, .slice A' l[k].ctors.length cp] 30) = wA
      have x0 : wA.cell? ⟨wr.heap.size, 0, none⟩ = some (.string l[k].name) := by rw [← hwA]; simp [go_sem]
      have x1 : wA.cell? ⟨wr.heap.size, 1, none⟩ = some (.slice A' l[k].ctors.length cp) := by rw [← hwA]; simp [go_sem]
      have hbA : Below wr.heap.size wr wA := by rw [← hwA]; exact (Below.refl _ _).alloc (Nat.le_refl _) _
      have HWA := Lib.hid hwA
      have X0 := Lib.hid x0
      clear hwA
      go_wp2_with (at_make; rw [HWA.out]; refine wpList_make_full _ rfl _ _ 48 rfl wA.heap.size 9 i0 _ 1 Tryd.underlying48 hi' hz0 hz1 _ _ _ _ l[k].ctors.length rfl rfl rfl rfl (by rw [hz2]; omega) (by unfold maxLen; omega) (Nat.le_refl _) ?_; intro w3 hown3 hgr3; have hbg3 := below_of_grown hgr3 (Nat.le_refl _); have x1' := (hbg3.cell (p := ⟨wr.heap.size, 1, none⟩) (Go.block_lt_of_cell x1)).trans x1)
      obtain ⟨wo, rfl⟩ : ∃ wo : World, wo = wr := ⟨_, rfl⟩
      go_loopw [29] (fun i wi => ∃ j : Nat, j ≤ l[k].ctors.length ∧ i = .int .i64 j ∧ ∃ ys, wi.ownsRow wA.heap.size 9 1 (.slice (some ⟨wA.heap.size, 0, none⟩) l[k].ctors.length l[k].ctors.length) l[k].ctors.length ys ∧ StRow ts2 ys j ∧ Below wA.heap.size wA wi) (fun i _ => l[k].ctors.length - (intOf i).toNat)
      case atStart => exact ⟨0, by omega, rfl, _, hown3, StRow.zero _ _, hbg3⟩
      case round =>
        obtain ⟨j, hj, rfl, ys, hown3, hrow3, hbi⟩ := hrel
        clear hgr3 hbg3 x1' x0
        have HO3 := Lib.hid hown3
        have HRW3 := Lib.hid hrow3
        clear hown3 hrow3
        have hbo : Below wo.heap.size wo wr := below_after hbA hbi hbA.size
        have hbw2 : Below w.heap.size w wr := below_after hbw hbo hbw.size
        by_cases hjt : j < l[k].ctors.length
        · obtain ⟨g, o, rfl, hgB, D1, ep, e0, e1, e2, hszm, hmm⟩ := (HMD.out.below hbw2 (Nat.le_refl _)).2 j hjt
          have hgw : g < wr.heap.size := by have := hbw2.size; omega
          have HIN := Lib.hid (world_ct_in HW.out hlt hjt)
          have hjl : j < ts2.length := by rw [HL2.out]; exact hjt
          have HGJ := Lib.hid (HG2.out j hjt hjl)
          have HRr : Hid (∀ ob : Obj, RDas (wr.alloc ob) (wr.alloc ob).heap.size (some ⟨b, off, none⟩) l) := fun ob => Hr.out.keep (fun p hp => (World.cell?_alloc_lt _ _ _ (Nat.lt_of_lt_of_le hp hbw2.size)).trans (hbw2.cell hp)) (by have := hbw2.size; simp; omega)
          have HMM : Hid (∀ ob : Obj, RTys (wr.alloc ob) (wr.alloc ob).heap.size D1 l[k].ctors[j].args) := fun ob => hmm.keep (fun p hp => World.cell?_alloc_lt _ _ _ (Nat.lt_of_lt_of_le hp hbw2.size)) (by have := hbw2.size; simp; omega)
          have hwl3 : wA.heap.size < wr.heap.size := own_lt HO3.out
          have hyl := HO3.out.1
          clear hmm
          go_wp2_with (go_at_call 25; refine (ctorText_impl _ _ l l[k].ctors[j] _ _ _ (HRr.out _) (HMM.out _) HS.out HIN.out).mono ?_; rw [← HGJ.out]; rintro e w4 ⟨rfl, hb4⟩; have hown4 := own_below (HO3.out.alloc _) hb4; obtain ⟨v0, f0⟩ := own_cell hown4 j (by omega); have g0 := hown4.frozenAt j)
          have s1 := (hown4.stored j (.string ts2[j])).1
          have hrow4 := HRW3.out.step hjl (by rw [HL2.out]; omega)
          have hb5 : Below wA.heap.size wA w4 := hbi.trans (((Below.refl _ _).alloc (Nat.le_refl _) _ |>.trans (hb4.mono (by simp))).mono hbi.size)
          go_roundw
          case rel => exact ⟨j + 1, by omega, by go_num, _, s1, hrow4, hb5.setCell (Nat.le_refl _) _⟩
          case measure => simp [intOf]; omega
        · have hje : j = l[k].ctors.length := by omega
          have HO3' : Hid (wr.ownsRow wA.heap.size 9 1 (.slice (some ⟨wA.heap.size, 0, none⟩) ts2.length ts2.length) ts2.length ys) := by unfold Hid; rw [HL2.out]; exact HO3.out
          have HRW3' : Hid (StRow ts2 ys ts2.length) := by unfold Hid; rw [HL2.out, ← hje]; exact HRW3.out
          have hl3 : ts2.length ≤ 1000 := by rw [HL2.out]; omega
          have hcl : Hid (l[k].ctors.length = ts2.length) := HL2.out.symm
          have HO1 : Hid (wr.ownsRow w1.heap.size 9 1 (.slice (some ⟨w1.heap.size, 0, none⟩) l.length l.length) l.length xs) := own_below HO.out hbo
          have z0 : wr.cell? ⟨wo.heap.size, 0, none⟩ = some (.string l[k].name) := (hbi.cell (p := ⟨wo.heap.size, 0, none⟩) (Go.block_lt_of_cell X0.out)).trans X0.out
          generalize hu : joinB ts2 ⟨#[124]⟩ = u at hjz HDT
          have HU := Lib.hid hu
          clear hje hu
          have ha1 : ∀ w : World, (Op.stringOp .add l[k].name ⟨#[61]⟩).run Tryd.prog w = .ok (.string (l[k].name ++ ⟨#[61]⟩)) w := fun w => run_string_add_sum w _ _ (by have : (ByteArray.mk #[61]).size = 1 := rfl; omega)
          have ha2 : ∀ w : World, (Op.stringOp .add (l[k].name ++ ⟨#[61]⟩) u).run Tryd.prog w = .ok (.string ((l[k].name ++ ⟨#[61]⟩) ++ u)) w := fun w => run_string_add_sum w _ _ (by rw [ByteArray.size_append]; have : (ByteArray.mk #[61]).size = 1 := rfl; omega)
          go_wp2_with fail
          have HO3d : Hid (wr.drew.ownsRow wA.heap.size 9 1 (.slice (some ⟨wA.heap.size, 0, none⟩) ts2.length ts2.length) ts2.length ys) := HO3'.out
          go_region_held3 (fun w' => w'.cell? ⟨wo.heap.size, 0, none⟩ = some (.string l[k].name)) (first | exact z0 | exact z1 | exact z2 _ | go_keep) (first | (go_at_call 26; rw [hcl.out]; refine (join_row ts2 ⟨#[124]⟩ _ _ _ ys _ HO3d.out HRW3'.out (Nat.le_refl _) hl3 HTM2.out (by decide)).mono ?_; rw [HU.out]; rintro e w6 ⟨rfl, hb6⟩; have hb6' : Below wr.heap.size wr w6 := ⟨hb6.os, hb6.tape, hb6.output, hb6.size, hb6.block⟩; have z1 := (hb6'.cell (p := ⟨wo.heap.size, 0, none⟩) (Go.block_lt_of_cell z0)).trans z0; have hown6 := own_below HO1.out hb6'; obtain ⟨v0, f0⟩ := own_cell hown6 k (by omega); have g0 := hown6.frozenAt k; have z2 : ∀ v, (w6.setCell ⟨w1.heap.size, k, none⟩ v).cell? ⟨wo.heap.size, 0, none⟩ = some (.string l[k].name) := fun v => (World.cell?_setCell_far _ _ _ _ (show w1.heap.size ≠ wo.heap.size by omega)).trans z1))
          have s1 := (hown6.stored k (.string ts[k])).1
          have hrow6 := HRW.out.step hkl (by rw [HL.out]; omega)
          have hb7 : Below w1.heap.size w1 w6 := below_after hb (below_after hbo hb6' hbo.size) hb.size
          have HV : Hid ((l[k].name ++ ⟨#[61]⟩) ++ u = ts[k]) := by unfold Hid; rw [HGK.out, HDT.out]
          go_wp2_with fail
          rw [HV.out]
          go_roundw
          case rel => exact ⟨k + 1, by omega, by go_num, _, s1, hrow6, hb7.setCell (Nat.le_refl _) _⟩
          case measure => simp [intOf]; omega
    · have he : k = l.length := by omega
      have HO' : Hid (wr.ownsRow w1.heap.size 9 1 (.slice (some ⟨w1.heap.size, 0, none⟩) ts.length ts.length) ts.length xs) := by unfold Hid; rw [HL.out]; exact HO.out
      have HRW' : Hid (StRow ts xs ts.length) := by unfold Hid; rw [HL.out, ← he]; exact HRW.out
      have hl3 : ts.length ≤ 1000 := by rw [HL.out]; omega
      have hcl : Hid (l.length = ts.length) := HL.out.symm
      clear he
      go_wp2_with (go_at_call 26; rw [hcl.out]; refine (join_row ts ⟨#[59]⟩ _ _ _ xs _ HO'.out HRW'.out (Nat.le_refl _) hl3 HTM.out (by decide)).mono ?_; rintro e w5 ⟨rfl, hb5⟩)
      go_ret
      exact ⟨ret_str HJ.out.symm, below_after hbw hb5 hbw.size⟩
end Go.Proofs.YthebdlejoficmabDoor
/-
  The law FnExactFormatWorld walked. No statement is proved here.
-/
namespace Go.Proofs.YthebdlejoficmabDoor
open Go.RowKit Go.Deep
set_option maxRecDepth 100000
set_option linter.unusedVariables false

theorem fworld_impl (A : Option Addr) (l : List Da) (cap : Nat) (w : World) (hr : RDas w w.heap.size A l) :
    Calls Tryd.prog 10 #[.slice A l.length cap] w fun e w' => e = .returned (.string (fwT l)) ∧ Below w.heap.size w w' := by
  by_cases h : WorldOK l
  · rw [fwT_yes h]; exact fworld_yes A l cap w hr h
  · have Hr := Lib.hid hr
    have HT := Lib.hid (fwT_no h)
    clear hr
    go_enter Tryd.func10, Tryd.ntmps10
    go_wp2_with (go_at_call 9; refine (worldI_no Hr.out h).mono ?_; rintro e w1 ⟨rfl, hb1⟩)
    go_ret
    exact ⟨ret_str HT.out.symm, hb1⟩

end Go.Proofs.YthebdlejoficmabDoor
