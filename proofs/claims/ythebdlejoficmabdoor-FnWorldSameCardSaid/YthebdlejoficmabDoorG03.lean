/-
  The texts of types: the program's functions, and FormatType of the program and of the document. No statement is proved here.
-/
import Derived.Test.YthebdlejoficmabDoorG01
import Derived.Test.YthebdlejoficmabDoorSShelf
import Derived.Deep.RegionHeld3
import Derived.Deep.RegionWith
namespace Go.Proofs.YthebdlejoficmabDoor
open Go.RowKit Go.Deep
set_option maxRecDepth 100000
set_option linter.unusedVariables false

theorem dig_small {n : Nat} (h : n < 10) : (⟨(Lib.decDigits n).toArray⟩ : ByteArray) = dig n := by
  rcases (by omega : n = 0 ∨ n = 1 ∨ n = 2 ∨ n = 3 ∨ n = 4 ∨ n = 5 ∨ n = 6 ∨ n = 7 ∨ n = 8 ∨ n = 9) with rfl | rfl | rfl | rfl | rfl | rfl | rfl | rfl | rfl | rfl <;> (first | rfl | (unfold Lib.decDigits; rfl) | decide +kernel)
theorem ixI_any (i : Int) (w : World) (h0 : -1 ≤ i) (h9 : i ≤ 9) :
    Calls Tryd.prog 40 #[.int .i64 i] w fun e w' => e = .returned (.string (ixT i)) ∧ w = w' := by
  by_cases h1 : i = 0
  · have q := ieq_t h1
    have HD : Hid (ixT i = ⟨#[]⟩) := if_pos h1
    clear h1
    go_enter Tryd.func40, Tryd.ntmps40
    go_wp2_with fail
    go_ret
    exact ⟨ret_str HD.out.symm, rfl⟩
  · by_cases h2 : i = -1
    · have q := ieq_f h1
      have q2 := ieq_t h2
      have HD : Hid (ixT i = ⟨#[42]⟩) := by unfold Hid ixT; rw [if_neg h1, if_pos h2]
      clear h1 h2
      go_enter Tryd.func40, Tryd.ntmps40
      go_wp2_with fail
      go_ret
      exact ⟨ret_str HD.out.symm, rfl⟩
    · have q := ieq_f h1
      have q2 := ieq_f h2
      have HD : Hid (ixT i = dig i) := by unfold Hid ixT; rw [if_neg h1, if_neg h2]
      obtain ⟨n, rfl⟩ : ∃ n : Nat, i = n := ⟨i.toNat, by omega⟩
      have HN := Lib.hid (dig_small (n := n) (by omega))
      have hn : n < 100 := by omega
      clear h1 h2
      go_enter Tryd.func40, Tryd.ntmps40
      go_wp2_with fail
      refine (Tryd.strconv_Itoa_small n hn _).mono ?_
      rintro e w1 ⟨rfl, rfl⟩
      go_wp2_with fail
      go_ret
      exact ⟨ret_str (by rw [HD.out, HN.out]), rfl⟩

theorem typeI_int (A : Option Addr) (n cap : Nat) (i : Int) (w : World) :
    Calls Tryd.prog 34 #[.slice A n cap, .agg #[.int .i64 (-1), .int .i64 i]] w fun e w' => e = .returned (.string ⟨#[73]⟩) ∧ Below w.heap.size w w' := by
  have HB : Hid (∀ o : Obj, Below w.heap.size w (w.alloc o)) := fun o => (Below.refl _ _).alloc (Nat.le_refl _) _
  go_enter Tryd.func34, Tryd.ntmps34
  go_wp2_with fail
  go_ret
  exact ⟨rfl, HB.out _⟩
theorem ixI_below (i : Int) (w : World) (h0 : -1 ≤ i) (h9 : i ≤ 9) :
    Calls Tryd.prog 40 #[.int .i64 i] w fun e w' => e = .returned (.string (ixT i)) ∧ Below w.heap.size w w' :=
  (ixI_any i w h0 h9).mono fun e w' ⟨h, h'⟩ => ⟨h, by subst h'; exact Below.refl _ _⟩
set_option maxHeartbeats 800000 in
theorem typeI_data (A : Option Addr) (l : List Da) (cap d : Nat) (i : Int) (w : World) (hr : RDas w w.heap.size A l) (hd : d < l.length) (hn : l[d].name.size ≤ 100) (h0 : -1 ≤ i) (h9 : i ≤ 9) :
    Calls Tryd.prog 34 #[.slice A l.length cap, .agg #[.int .i64 d, .int .i64 i]] w fun e w' => e = .returned (.string (l[d].name ++ ixT i)) ∧ Below w.heap.size w w' := by
  have hm := hr.1
  unfold maxLen at hm
  obtain ⟨b, off, rfl, hbB, A', cp, c0, c1, _, _⟩ := hr.2 d hd
  clear hr c1
  have q0 : ((d : Int) == -1) = false := ieq_f (by omega)
  have hdI : (d : Int) < (l.length : Int) := by omega
  have hd0 : (0 : Int) ≤ (d : Int) := Int.natCast_nonneg _
  have hxs := ixT_size i
  generalize hw0 : w.alloc (.cells #[.int .i64 d, .int .i64 i] 39) = w0
  have x0 : w0.cell? ⟨w.heap.size, 0, none⟩ = some (.int .i64 d) := by rw [← hw0]; simp [go_sem]
  have x1 : w0.cell? ⟨w.heap.size, 1, none⟩ = some (.int .i64 i) := by rw [← hw0]; simp [go_sem]
  have x2 : w0.cell? ⟨b, off + d * 2, none⟩ = some (.string l[d].name) := by rw [← hw0]; exact (World.cell?_alloc_lt _ _ _ hbB).trans c0
  have hb0 : Below w.heap.size w w0 := by rw [← hw0]; exact (Below.refl _ _).alloc (Nat.le_refl _) _
  have HW := Lib.hid hw0
  clear hw0 c0
  go_enter Tryd.func34, Tryd.ntmps34
  go_wp2_with fail
  rw [HW.out]
  have hadd : ∀ w : World, (Op.stringOp .add l[d].name (ixT i)).run Tryd.prog w = .ok (.string (l[d].name ++ ixT i)) w := fun w => run_string_add_sum w _ _ (by omega)
  go_region_held3 (fun w' => w'.cell? ⟨w.heap.size, 0, none⟩ = some (.int .i64 d) ∧ w'.cell? ⟨w.heap.size, 1, none⟩ = some (.int .i64 i) ∧ w'.cell? ⟨b, off + d * 2, none⟩ = some (.string l[d].name)) (first | exact ⟨x0, x1, x2⟩ | exact ⟨y0, y1, y2⟩ | go_keep) (first | (go_at_call 40; refine (ixI_below _ _ h0 h9).mono ?_; rintro e w1 ⟨rfl, hb1⟩; have hb1' : Below w0.heap.size w0 w1 := ⟨hb1.os, hb1.tape, hb1.output, hb1.size, hb1.block⟩; have y0 := (hb1'.cell (p := ⟨w.heap.size, 0, none⟩) (Go.block_lt_of_cell x0)).trans x0; have y1 := (hb1'.cell (p := ⟨w.heap.size, 1, none⟩) (Go.block_lt_of_cell x1)).trans x1; have y2 := (hb1'.cell (p := ⟨b, off + d * 2, none⟩) (Go.block_lt_of_cell x2)).trans x2))
  have hbF := below_after hb0 hb1' hb0.size
  go_wp2_with fail
  go_ret
  exact ⟨rfl, hbF⟩
theorem typeT_impl (A : Option Addr) (l : List Da) (cap : Nat) (t : Ty) (s : ByteArray) (w : World) (hr : RDas w w.heap.size A l) (hs : Short l) (ht : ArgIn l.length t) (he : tyT l t = s) :
    Calls Tryd.prog 34 #[.slice A l.length cap, .agg #[.int .i64 t.data, .int .i64 t.index]] w fun e w' => e = .returned (.string s) ∧ Below w.heap.size w w' := by
  subst he
  obtain ⟨d, i⟩ := t
  by_cases h : d = -1
  · subst h
    rw [tyT_int rfl]
    exact typeI_int A l.length cap i w
  · have h1 := ht.1.resolve_left h
    simp only at h1
    obtain ⟨k, rfl⟩ : ∃ k : Nat, d = k := ⟨d.toNat, by omega⟩
    rw [tyT_data (by omega : k < l.length)]
    exact typeI_data A l cap k i w hr (by omega) (hs k (by omega)) ht.2.1 (by have := ht.2.2; simp only at this; omega)
theorem ok_in {l : List Da} {t : Ty} (h : TyOK l t) : ArgIn l.length t := by
  have h2 := h.2
  by_cases hb : t.data = -1
  · rw [argB_int hb] at h2
    have : t.index = 0 := of_decide_eq_true h2
    exact ⟨.inl hb, by omega, by omega⟩
  · rw [argB_data hb] at h2
    have := of_decide_eq_true h2
    exact ⟨.inr ⟨this.1, this.2.1⟩, by omega, this.2.2.2⟩

/-- The text of a type, or none. -/
noncomputable def ftT (l : List Da) (t : Ty) : ByteArray := if dec (TyOK l t) then tyT l t else ⟨#[]⟩
theorem ftT_yes {l : List Da} {t : Ty} (h : TyOK l t) : ftT l t = tyT l t := by unfold ftT; rw [dec_t h]; rfl
theorem ftT_no {l : List Da} {t : Ty} (h : ¬ TyOK l t) : ftT l t = ⟨#[]⟩ := by unfold ftT; rw [dec_f h]; rfl
theorem ftype_spec (A : Option Addr) (l : List Da) (cap : Nat) (t : Ty) (w : World) (hr : RDas w w.heap.size A l) :
    Calls Tryd.prog 16 #[.slice A l.length cap, .agg #[.int .i64 t.data, .int .i64 t.index]] w fun e w' => e = .returned (.string (ftT l t)) ∧ Below w.heap.size w w' := by
  have Hr := Lib.hid hr
  clear hr
  by_cases h : TyOK l t
  · have HT := Lib.hid (ftT_yes h)
    have HS := Lib.hid (world_short h.1)
    have HI := Lib.hid (ok_in h)
    go_enter Tryd.func16, Tryd.ntmps16
    go_wp2_with (first | (go_at_call 35; refine (typeV_yes (t := t) (by exact Hr.out.keep (keep_one _) (by simp)) h).mono ?_; rintro e w1 ⟨rfl, hb⟩; obtain ⟨hc, hfz⟩ := bcell hb; have hb1 := below_one hb) | (go_at_call 36; refine (type_any _ l _ t _ _ (by exact Hr.out.keep (fun p hp => hb1.cell hp) hb1.size) HS.out HI.out rfl).mono ?_; rintro e w2 ⟨rfl, hb2'⟩; have hb2 := hb1.trans (hb2'.mono hb1.size)))
    go_ret
    exact ⟨ret_str HT.out.symm, hb2⟩
  · have HT := Lib.hid (ftT_no h)
    go_enter Tryd.func16, Tryd.ntmps16
    go_wp2_with (go_at_call 35; refine (typeV_no (t := t) (by exact Hr.out.keep (keep_one _) (by simp)) h).mono ?_; rintro e w1 ⟨rfl, hb⟩; have hb1 := below_one hb; clear hb)
    go_ret
    exact ⟨ret_str HT.out.symm, hb1⟩
theorem ftype_impl (A : Option Addr) (l : List Da) (cap : Nat) (t : Ty) (w : World) (hr : RDas w w.heap.size A l) :
    Calls Tryd.prog 15 #[.slice A l.length cap, .agg #[.int .i64 t.data, .int .i64 t.index]] w fun e w' => e = .returned (.string (ftT l t)) ∧ Below w.heap.size w w' := by
  have Hr := Lib.hid hr
  clear hr
  by_cases h : TyOK l t
  · have HT := Lib.hid (ftT_yes h)
    have HS := Lib.hid (world_short h.1)
    have HI := Lib.hid (ok_in h)
    go_enter Tryd.func15, Tryd.ntmps15
    go_wp2_with (first | (go_at_call 17; refine (typeI_yes (t := t) (by exact Hr.out.keep (keep_one _) (by simp)) h).mono ?_; rintro e w1 ⟨rfl, hb⟩; obtain ⟨hc, hfz⟩ := bcell hb; have hb1 := below_one hb) | (go_at_call 34; refine (typeT_impl _ l _ t _ _ (by exact Hr.out.keep (fun p hp => hb1.cell hp) hb1.size) HS.out HI.out rfl).mono ?_; rintro e w2 ⟨rfl, hb2'⟩; have hb2 := hb1.trans (hb2'.mono hb1.size)))
    go_ret
    exact ⟨ret_str HT.out.symm, hb2⟩
  · have HT := Lib.hid (ftT_no h)
    go_enter Tryd.func15, Tryd.ntmps15
    go_wp2_with (go_at_call 17; refine (typeI_no (t := t) (by exact Hr.out.keep (keep_one _) (by simp)) h).mono ?_; rintro e w1 ⟨rfl, hb⟩; have hb1 := below_one hb; clear hb)
    go_ret
    exact ⟨ret_str HT.out.symm, hb1⟩
end Go.Proofs.YthebdlejoficmabDoor
/-
  Different types of a world have different texts: plain mathematics. No statement is proved here.
-/
namespace Go.Proofs.YthebdlejoficmabDoor
open Go.RowKit Go.Deep
set_option maxRecDepth 100000
set_option linter.unusedVariables false

theorem name_inj {l : List Da} (h : WorldOK l) {a b : Nat} (ha : a < l.length) (hb : b < l.length) (e : l[a].name = l[b].name) : a = b := by
  rcases Nat.lt_trichotomy a b with hlt | rfl | hlt
  · exact absurd ⟨a, ha, hlt, by rw [e]⟩ (h.2.2 b hb hb).1
  · rfl
  · exact absurd ⟨b, hb, hlt, by rw [e]⟩ (h.2.2 a ha ha).1
theorem data_nm {l : List Da} (h : WorldOK l) {a : Nat} (ha : a < l.length) : l[a].name.data.toList.length = 1 ∧ ¬ l[a].name.data.toList = [73] := by
  have h1 := h.2.1 a ha ha
  unfold dataB dnameB at h1
  simp only [Bool.and_eq_true, decide_eq_true_eq] at h1
  refine ⟨by have := h1.1.1; simpa using this, ?_⟩
  have := h1.1.2.2
  rwa [ByteArray.toList_eq] at this
theorem ixT_list : (ixT 0).data.toList = [] ∧ (ixT 1).data.toList = [49] ∧ (ixT 2).data.toList = [50] ∧ (ixT 3).data.toList = [51] := ⟨rfl, rfl, rfl, rfl⟩
theorem ixT_inj {i j : Int} (hi : 0 ≤ i ∧ i ≤ 3) (hj : 0 ≤ j ∧ j ≤ 3) (e : (ixT i).data.toList = (ixT j).data.toList) : i = j := by
  obtain ⟨e0, e1, e2, e3⟩ := ixT_list
  rcases (by omega : i = 0 ∨ i = 1 ∨ i = 2 ∨ i = 3) with rfl | rfl | rfl | rfl <;> rcases (by omega : j = 0 ∨ j = 1 ∨ j = 2 ∨ j = 3) with rfl | rfl | rfl | rfl <;> first | rfl | (rw [e0, e1] at e; cases e) | (rw [e0, e2] at e; cases e) | (rw [e0, e3] at e; cases e) | (rw [e1, e0] at e; cases e) | (rw [e1, e2] at e; cases e) | (rw [e1, e3] at e; cases e) | (rw [e2, e0] at e; cases e) | (rw [e2, e1] at e; cases e) | (rw [e2, e3] at e; cases e) | (rw [e3, e0] at e; cases e) | (rw [e3, e1] at e; cases e) | (rw [e3, e2] at e; cases e)
theorem ok_idx {l : List Da} {t : Ty} (h : TyOK l t) : 0 ≤ t.index ∧ t.index ≤ 3 ∧ (t.data = -1 → t.index = 0) := by
  have h2 := h.2
  by_cases hb : t.data = -1
  · rw [argB_int hb] at h2
    have : t.index = 0 := of_decide_eq_true h2
    exact ⟨by omega, by omega, fun _ => this⟩
  · rw [argB_data hb] at h2
    have := of_decide_eq_true h2
    exact ⟨by omega, by omega, fun e => absurd e hb⟩
theorem tyT_list {l : List Da} {d : Nat} {i : Int} (hd : d < l.length) : (tyT l ⟨d, i⟩).data.toList = l[d].name.data.toList ++ (ixT i).data.toList := by
  rw [tyT_data hd]; simp
theorem tyT_ne {l : List Da} {d : Nat} {i : Int} (h : WorldOK l) (hd : d < l.length) : ¬ (tyT l ⟨d, i⟩).data.toList = [73] := by
  intro e
  rw [tyT_list hd] at e
  obtain ⟨h1, h2⟩ := data_nm h hd
  have h3 := List.append_inj (t₁ := (ixT i).data.toList) (t₂ := []) (s₁ := l[d].name.data.toList) (s₂ := [73]) (by simpa using e) (by simpa using h1)
  exact h2 h3.1
theorem ba_ext' {a b : ByteArray} (h : a.data.toList = b.data.toList) : a = b := by
  cases a; cases b
  simp only at h
  congr 1
  exact Array.ext' h
theorem tyT_inj {l : List Da} {t u : Ty} (ht : TyOK l t) (hu : TyOK l u) (e : tyT l t = tyT l u) : t = u := by
  obtain ⟨a, i⟩ := t
  obtain ⟨b, j⟩ := u
  have ht2 := ok_idx ht
  have hu2 := ok_idx hu
  simp only at ht2 hu2
  have hI : (ByteArray.mk #[73]).data.toList = [73] := rfl
  rcases ty_cases ht with h1 | ⟨x, h1, hx⟩ <;> rcases ty_cases hu with h2 | ⟨y, h2, hy⟩ <;> simp only at h1 h2 <;> subst h1 <;> subst h2
  · rw [ht2.2.2 rfl, hu2.2.2 rfl]
  · have e' : (tyT l _).data.toList = (tyT l _).data.toList := congrArg (fun z : ByteArray => z.data.toList) e
    rw [tyT_int rfl, hI] at e'
    exact absurd e'.symm (tyT_ne ht.1 hy)
  · have e' : (tyT l _).data.toList = (tyT l _).data.toList := congrArg (fun z : ByteArray => z.data.toList) e
    rw [tyT_int (t := ⟨-1, j⟩) rfl, hI] at e'
    exact absurd e' (tyT_ne ht.1 hx)
  · have e' : (tyT l _).data.toList = (tyT l _).data.toList := congrArg (fun z : ByteArray => z.data.toList) e
    rw [tyT_list hx, tyT_list hy] at e'
    have h3 := List.append_inj e' (by rw [(data_nm ht.1 hx).1, (data_nm ht.1 hy).1])
    have hn : l[x].name = l[y].name := ba_ext' h3.1
    have hxy := name_inj ht.1 hx hy hn
    subst hxy
    rw [ixT_inj ⟨ht2.1, ht2.2.1⟩ ⟨hu2.1, hu2.2.1⟩ h3.2]
theorem tyT_some {l : List Da} {t : Ty} (ht : TyOK l t) : ¬ (tyT l t).size = 0 := by
  obtain ⟨a, i⟩ := t
  intro e
  have e' : (tyT l ⟨a, i⟩).data.toList.length = 0 := by simpa using e
  rcases ty_cases ht with h1 | ⟨x, h1, hx⟩ <;> simp only at h1 <;> subst h1
  · rw [tyT_int rfl] at e'; cases e'
  · rw [tyT_list hx, List.length_append, (data_nm ht.1 hx).1] at e'; omega
end Go.Proofs.YthebdlejoficmabDoor
/-
  Texts with something between them: plain mathematics, and strings.Join. No statement is proved here.
-/
namespace Go.Proofs.YthebdlejoficmabDoor
open Go.RowKit Go.Deep
set_option maxRecDepth 100000
set_option linter.unusedVariables false

theorem ba_ext {a b : ByteArray} (h : a.data.toList = b.data.toList) : a = b := by
  cases a; cases b
  simp only at h
  congr 1
  exact Array.ext' h
theorem ba_append (a b : ByteArray) : (a ++ b).data.toList = a.data.toList ++ b.data.toList := by simp
def joinB (ts : List ByteArray) (sep : ByteArray) : ByteArray := ⟨(Lib.join (ts.map (·.data.toList)) sep.data.toList).toArray⟩
theorem joinB_list (ts : List ByteArray) (sep : ByteArray) : (joinB ts sep).data.toList = Lib.join (ts.map (·.data.toList)) sep.data.toList := by simp [joinB]
theorem joinB_nil (sep : ByteArray) : joinB [] sep = ⟨#[]⟩ := rfl
theorem joinB_one (x sep : ByteArray) : joinB [x] sep = x := ba_ext (by rw [joinB_list]; exact Lib.join_one _ _)
theorem join_snoc (ts : List (List UInt8)) (y sep : List UInt8) (h : ts ≠ []) : Lib.join (ts ++ [y]) sep = Lib.join ts sep ++ (sep ++ y) := by
  cases ts with
  | nil => exact absurd rfl h
  | cons x r =>
    rw [List.cons_append, Lib.join_cons, Lib.join_cons]
    simp [Lib.joinTail, List.append_assoc]
theorem joinB_snoc (ts : List ByteArray) (y sep : ByteArray) (h : ts ≠ []) : joinB (ts ++ [y]) sep = (joinB ts sep ++ sep) ++ y := by
  refine ba_ext ?_
  rw [ba_append, ba_append, joinB_list, joinB_list, List.map_append, List.map_cons, List.map_nil, join_snoc _ _ _ (by simpa using h), List.append_assoc]
theorem joinB_size (sep : ByteArray) (m : Nat) : ∀ ts : List ByteArray, (∀ t ∈ ts, t.size ≤ m) → (joinB ts sep).size ≤ ts.length * (m + sep.size) := by
  have key : ∀ ts : List ByteArray, (∀ t ∈ ts, t.size ≤ m) → (Lib.join (ts.map (·.data.toList)) sep.data.toList).length ≤ ts.length * (m + sep.size) := by
    intro ts h
    cases ts with
    | nil => simp [Lib.join_nil]
    | cons x r =>
      rw [List.map_cons, Lib.join_cons, List.length_append]
      have hx := h x (List.mem_cons_self)
      have hr : (Lib.joinTail sep.data.toList (r.map (·.data.toList))).length ≤ r.length * (m + sep.size) := by
        have h' : ∀ t ∈ r, t.size ≤ m := fun t ht => h t (List.mem_cons_of_mem _ ht)
        clear h hx
        induction r with
        | nil => simp [Lib.joinTail]
        | cons y r ih =>
          have h1 := ih (fun t ht => h' t (List.mem_cons_of_mem _ ht))
          have h2 := h' y (List.mem_cons_self)
          have e : Lib.joinTail sep.data.toList ((y :: r).map (·.data.toList)) = (sep.data.toList ++ y.data.toList) ++ Lib.joinTail sep.data.toList (r.map (·.data.toList)) := by simp [Lib.joinTail]
          rw [e, List.length_append, List.length_append, List.length_cons, Nat.add_mul, Nat.one_mul]
          have e1 : sep.data.toList.length = sep.size := by simp
          have e2 : y.data.toList.length = y.size := by simp
          omega
      have e2 : x.data.toList.length = x.size := by simp
      rw [List.length_cons, Nat.add_mul, Nat.one_mul]
      omega
  intro ts h
  have e : (joinB ts sep).size = (Lib.join (ts.map (·.data.toList)) sep.data.toList).length := by simp [joinB, ByteArray.size]
  rw [e]
  exact key ts h

/-! The document's texts, told by joins. -/
theorem argAcc_join {l : List Da} {c : Ct} : ∀ k, k < c.args.length → argAcc l c (k + 1) = (c.name ++ ⟨#[40]⟩) ++ joinB ((c.args.take (k + 1)).map (tyT l)) ⟨#[44]⟩
  | 0, h => by
    rw [argAcc_at h, if_pos rfl, List.take_succ_eq_append_getElem h]
    show _ = _ ++ joinB [tyT l c.args[0]] _
    rw [joinB_one]; rfl
  | k + 1, h => by
    rw [argAcc_at h, if_neg (by omega), argAcc_join k (by omega), List.take_succ_eq_append_getElem h, List.map_append, List.map_cons, List.map_nil, joinB_snoc _ _ _ (by
      intro e
      have h1 := congrArg List.length e
      rw [List.length_map, List.length_take] at h1
      simp only [List.length_nil] at h1
      omega)]
    simp only [ByteArray.append_assoc]
theorem ctT2_join {l : List Da} {c : Ct} (h : 0 < c.args.length) : ctT2 l c = ((c.name ++ ⟨#[40]⟩) ++ joinB (c.args.map (tyT l)) ⟨#[44]⟩) ++ ⟨#[41]⟩ := by
  unfold ctT2
  rw [if_pos h]
  have := argAcc_join (l := l) (c := c) (c.args.length - 1) (by omega)
  rw [show c.args.length - 1 + 1 = c.args.length by omega, List.take_length] at this
  rw [this]
theorem ctT2_none {l : List Da} {c : Ct} (h : c.args.length = 0) : ctT2 l c = c.name := by
  unfold ctT2
  rw [if_neg (by omega), h]; rfl
theorem ctsAcc_join {l : List Da} {base : ByteArray} {cs : List Ct} : ∀ k, k ≤ cs.length → ctsAcc l base cs k = base ++ joinB ((cs.take k).map (ctT l)) ⟨#[124]⟩
  | 0, _ => by
    show base = base ++ joinB [] _
    rw [joinB_nil]; exact (ba_ext (by rw [ba_append]; simp)).symm
  | k + 1, h => by
    rw [ctsAcc_at (by omega), ctsAcc_join k (by omega), List.take_succ_eq_append_getElem (by omega), List.map_append, List.map_cons, List.map_nil]
    by_cases h0 : k = 0
    · subst h0
      rw [if_pos rfl]
      show (base ++ joinB [] _) ++ _ = base ++ joinB [ctT l cs[0]] _
      rw [joinB_one, joinB_nil]
      exact ba_ext (by rw [ba_append, ba_append, ba_append]; simp)
    · rw [if_neg h0, joinB_snoc _ _ _ (by
        intro e
        have h1 := congrArg List.length e
        rw [List.length_map, List.length_take] at h1
        simp only [List.length_nil] at h1
        omega)]
      simp only [ByteArray.append_assoc]
def daT (l : List Da) (d : Da) : ByteArray := (d.name ++ ⟨#[61]⟩) ++ joinB (d.ctors.map (ctT l)) ⟨#[124]⟩
theorem wAcc_join {l : List Da} : ∀ k, k ≤ l.length → wAcc l k = joinB ((l.take k).map (daT l)) ⟨#[59]⟩
  | 0, _ => rfl
  | k + 1, h => by
    rw [wAcc_at (by omega), ctsAcc_join _ (Nat.le_refl _), List.take_length, wAcc_join k (by omega), List.take_succ_eq_append_getElem (by omega), List.map_append, List.map_cons, List.map_nil]
    unfold headT daT
    by_cases h0 : k = 0
    · subst h0
      rw [if_pos rfl]
      show ((joinB [] _ ++ _) ++ _) ++ _ = joinB [_] _
      rw [joinB_one, joinB_nil]
      exact ba_ext (by simp only [ba_append]; simp)
    · rw [if_neg h0, joinB_snoc _ _ _ (by
        intro e
        have h1 := congrArg List.length e
        rw [List.length_map, List.length_take] at h1
        simp only [List.length_nil] at h1
        omega)]
      simp only [ByteArray.append_assoc]
theorem wT_join (l : List Da) : wT l = joinB (l.map (daT l)) ⟨#[59]⟩ := by
  unfold wT
  rw [wAcc_join _ (Nat.le_refl _), List.take_length]

/-- What the first k rounds have left in a row of texts. -/
def StRow (ts : List ByteArray) (xs : List Value) (k : Nat) : Prop := ∀ j (h : j < ts.length), j < k → xs[j]? = some (.string ts[j])
theorem StRow.zero (ts : List ByteArray) (xs : List Value) : StRow ts xs 0 := fun j _ h => absurd h (by omega)
theorem StRow.step {ts : List ByteArray} {xs : List Value} {k : Nat} (h : StRow ts xs k) (hk : k < ts.length) (hx : xs.length = ts.length) : StRow ts (xs.set k (.string ts[k])) (k + 1) := by
  intro j hj hjk
  by_cases e : j = k
  · subst e
    rw [List.getElem?_set_self (by omega)]
  · rw [List.getElem?_set_ne (by omega)]
    exact h j hj (by omega)
/-- strings.Join of a row of the call's own. -/
theorem join_row (ts : List ByteArray) (sep : ByteArray) (g lo cap : Nat) (xs : List Value) (w : World) (hown : w.ownsRow lo 9 1 (.slice (some ⟨g, 0, none⟩) ts.length cap) ts.length xs) (hrow : StRow ts xs ts.length) (hcap : ts.length ≤ cap) (hn : ts.length ≤ 1000) (hm : ∀ t ∈ ts, t.size ≤ 100000) (hsep : sep.size ≤ 10) :
    Calls Tryd.prog 26 #[.slice (some ⟨g, 0, none⟩) ts.length cap, .string sep] w fun e w' => e = .returned (.string (joinB ts sep)) ∧ Below w.heap.size w w' := by
  have hz := joinB_size sep 100000 ts hm
  have hz2 : ts.length * (100000 + sep.size) ≤ 1000 * (100000 + 10) := Nat.mul_le_mul hn (by omega)
  have e : (joinB ts sep).size = (Lib.join (ts.map (·.data.toList)) sep.data.toList).length := by simp [joinB, ByteArray.size]
  refine (Tryd.strings_Join g 0 cap ts sep w ?_ (own_lt hown) (by omega) hcap (by omega)).mono ?_
  · intro j x hj
    obtain ⟨hjl, rfl⟩ := List.getElem?_eq_some_iff.1 hj
    have := hown.cellAt j (by omega)
    rw [Nat.zero_add, this]
    exact hrow j hjl hjl
  · rintro e w1 ⟨rfl, hb⟩
    exact ⟨rfl, hb⟩
end Go.Proofs.YthebdlejoficmabDoor
/-
  The texts of constructors: the program's functions. No statement is proved here.
-/
namespace Go.Proofs.YthebdlejoficmabDoor
open Go.RowKit Go.Deep
set_option maxRecDepth 100000
set_option linter.unusedVariables false

/-- A name with texts in brackets behind it. -/
def twT (nm : ByteArray) (ts : List ByteArray) : ByteArray := if ts.length = 0 then nm else ((nm ++ ⟨#[40]⟩) ++ joinB ts ⟨#[44]⟩) ++ ⟨#[41]⟩
theorem twT_none {nm : ByteArray} {ts : List ByteArray} (h : ts.length = 0) : twT nm ts = nm := if_pos h
theorem twT_some {nm : ByteArray} {ts : List ByteArray} (h : ¬ ts.length = 0) : twT nm ts = ((nm ++ ⟨#[40]⟩) ++ joinB ts ⟨#[44]⟩) ++ ⟨#[41]⟩ := if_neg h
theorem twT_ct {l : List Da} {c : Ct} : twT c.name (c.args.map (tyT l)) = ctT2 l c := by
  by_cases h : c.args.length = 0
  · rw [twT_none (by rw [List.length_map]; exact h), ctT2_none h]
  · rw [twT_some (by rw [List.length_map]; exact h), ctT2_join (by omega)]

theorem twa_any (nm : ByteArray) (ts : List ByteArray) (g lo cap : Nat) (xs : List Value) (w : World) (hown : w.ownsRow lo 9 1 (.slice (some ⟨g, 0, none⟩) ts.length cap) ts.length xs) (hrow : StRow ts xs ts.length) (hcap : ts.length ≤ cap) (hn : ts.length ≤ 3) (hm : ∀ t ∈ ts, t.size ≤ 10000) (hnm : nm.size ≤ 100) :
    Calls Tryd.prog 39 #[.string nm, .slice (some ⟨g, 0, none⟩) ts.length cap] w fun e w' => e = .returned (.string (twT nm ts)) ∧ Below w.heap.size w w' := by
  by_cases h : ts.length = 0
  · have q := ieq_t (show (ts.length : Int) = 0 by omega)
    have HT := Lib.hid (twT_none (nm := nm) h)
    clear h hown hrow hm
    go_enter Tryd.func39, Tryd.ntmps39
    go_wp2_with fail
    go_ret
    exact ⟨ret_str HT.out.symm, Below.refl _ _⟩
  · have q := ieq_f (show ¬ (ts.length : Int) = 0 by omega)
    have HT := Lib.hid (twT_some (nm := nm) h)
    have HO := Lib.hid hown
    have HR := Lib.hid hrow
    have HM : Hid (∀ t ∈ ts, t.size ≤ 100000) := fun t ht => by have := hm t ht; omega
    have hz := joinB_size ⟨#[44]⟩ 10000 ts hm
    have hz2 : ts.length * (10000 + (ByteArray.mk #[44]).size) ≤ 3 * (10000 + 1) := Nat.mul_le_mul hn (Nat.le_refl _)
    have hz3 : (joinB ts ⟨#[44]⟩).size ≤ 30003 := by omega
    generalize hu : joinB ts ⟨#[44]⟩ = u at hz3 HT
    have HU := Lib.hid hu
    clear h hown hrow hm hz hz2 hu
    go_enter Tryd.func39, Tryd.ntmps39
    go_wp2_with fail
    refine (join_row ts ⟨#[44]⟩ g lo cap xs _ HO.out HR.out hcap (by omega) HM.out (by decide)).mono ?_
    rw [HU.out]
    rintro e w1 ⟨rfl, hb⟩
    go_wp2_with fail
    go_ret
    exact ⟨ret_str HT.out.symm, hb⟩

theorem info9s : (Tryd.prog.info? 9).map (fun i => (i.zero, i.size, i.bytes)) = some (some (.string ByteArray.empty), 1, 16) := by kernel_rfl

set_option maxHeartbeats 1600000 in
theorem ctorText_impl (A D : Option Addr) (l : List Da) (c : Ct) (cap ep : Nat) (w : World) (hr : RDas w w.heap.size A l) (ha : RTys w w.heap.size D c.args) (hs : Short l) (hc : CtIn l.length c) :
    Calls Tryd.prog 25 #[.slice A l.length cap, .agg #[.string c.name, .slice D c.args.length ep, .int .i64 c.index]] w fun e w' => e = .returned (.string (ctT l c)) ∧ Below w.heap.size w w' := by
  obtain ⟨i0, hi, hz0, hz1, hz2⟩ := info_parts info9s
  have Hr := Lib.hid hr
  have HA := Lib.hid ha
  have HS := Lib.hid hs
  have HC := Lib.hid hc
  have h3 := hc.2.1
  have hnm := hc.1
  have hi0 := hc.2.2.1
  have hi3 := hc.2.2.2.1
  have hT2 := ctT2_size hs hc
  have HTW := Lib.hid (twT_ct (l := l) (c := c))
  have HTM : Hid (∀ t ∈ c.args.map (tyT l), t.size ≤ 10000) := fun t ht => by
    obtain ⟨a, ha, rfl⟩ := List.mem_map.1 ht
    have := tyT_size HS.out (HC.out.2.2.2.2 a ha)
    omega
  have HG : Hid (∀ k (h : k < c.args.length) (h' : k < (c.args.map (tyT l)).length), (c.args.map (tyT l))[k] = tyT l c.args[k]) := fun k h h' => List.getElem_map _
  have HL : Hid ((c.args.map (tyT l)).length = c.args.length) := List.length_map _
  generalize hts : c.args.map (tyT l) = ts at HTW HTM HG HL
  clear hr ha hs hc hts
  generalize hw0 : w.alloc (.cells #[.string c.name, .slice D c.args.length ep, .int .i64 c.index] 27) = w0
  have x1 : w0.cell? ⟨w.heap.size, 1, none⟩ = some (.slice D c.args.length ep) := by rw [← hw0]; simp [go_sem]
  have HX : Hid (Box3 w0 w.heap.size c.name (.slice D c.args.length ep) c.index) := by rw [← hw0]; exact heap_alloc_new w _
  have hb0 : Below w.heap.size w w0 := by rw [← hw0]; exact (Below.refl _ _).alloc (Nat.le_refl _) _
  have HW := Lib.hid hw0
  clear hw0
  go_enter Tryd.func25, Tryd.ntmps25
  go_wp2_with (at_make; rw [HW.out]; refine wpList_make_full _ rfl _ _ 48 rfl w0.heap.size 9 i0 _ 1 Tryd.underlying48 hi hz0 hz1 _ _ _ _ c.args.length rfl rfl rfl rfl (by rw [hz2]; omega) (by unfold maxLen; omega) (Nat.le_refl _) ?_; intro w1 hown hgr; have hbg := below_of_grown hgr (Nat.le_refl _); have x1' := (hbg.cell (p := ⟨w.heap.size, 1, none⟩) (Go.block_lt_of_cell x1)).trans x1)
  go_loopw [16] (fun i wr => ∃ k : Nat, k ≤ c.args.length ∧ i = .int .i64 k ∧ ∃ xs, wr.ownsRow w0.heap.size 9 1 (.slice (some ⟨w0.heap.size, 0, none⟩) c.args.length c.args.length) c.args.length xs ∧ StRow ts xs k ∧ Below w0.heap.size w0 wr) (fun i _ => c.args.length - (intOf i).toNat)
  case atStart => exact ⟨0, by omega, rfl, _, hown, StRow.zero _ _, hbg⟩
  case round =>
    obtain ⟨k, hk, rfl, xs, hown, hrow, hb⟩ := hrel
    clear hgr hi hz0 hz1 hz2 x1' x1 hbg
    have hbx := HX.out.at_ hb
    have b0 := hbx.c0
    have b1 := hbx.c1
    have b2 := hbx.c2
    have hbw : Below w.heap.size w wr := below_after hb0 hb hb0.size
    have HO := Lib.hid hown
    have HRW := Lib.hid hrow
    clear hown hrow
    by_cases hlt : k < c.args.length
    · obtain ⟨g, o, rfl, hgB, y0, y1⟩ := (HA.out.below hbw (Nat.le_refl _)).2 k hlt
      have hgw : g < wr.heap.size := by have := hbw.size; omega
      have HIN := Lib.hid (HC.out.2.2.2.2 _ (List.getElem_mem hlt))
      have hkl : k < ts.length := by rw [HL.out]; exact hlt
      have HGK := Lib.hid (HG.out k hlt hkl)
      have HRr : Hid (∀ ob : Obj, RDas (wr.alloc ob) (wr.alloc ob).heap.size A l) := fun ob => Hr.out.keep (fun p hp => (World.cell?_alloc_lt _ _ _ (Nat.lt_of_lt_of_le hp hbw.size)).trans (hbw.cell hp)) (by have := hbw.size; simp; omega)
      have hwl : w0.heap.size < wr.heap.size := own_lt HO.out
      have hxl := HO.out.1
      go_wp2_with (go_at_call 34; refine (typeT_impl _ l _ c.args[k] (ts[k]) _ (HRr.out _) HS.out HIN.out HGK.out.symm).mono ?_; rintro e w2 ⟨rfl, hb2⟩; have hown2 := own_below (HO.out.alloc _) hb2; obtain ⟨v0, f0⟩ := own_cell hown2 k (by omega); have g0 := hown2.frozenAt k)
      have s1 := (hown2.stored k (.string ts[k])).1
      have hrow2 := HRW.out.step hkl (by rw [HL.out]; omega)
      have hb3 : Below w0.heap.size w0 w2 := hb.trans (((Below.refl _ _).alloc (Nat.le_refl _) _ |>.trans (hb2.mono (by simp))).mono hb.size)
      go_roundw
      case rel => exact ⟨k + 1, by omega, by go_num, _, s1, hrow2, hb3.setCell (Nat.le_refl _) _⟩
      case measure => simp [intOf]; omega
    · have he : k = c.args.length := by omega
      have HO' : Hid (wr.ownsRow w0.heap.size 9 1 (.slice (some ⟨w0.heap.size, 0, none⟩) ts.length ts.length) ts.length xs) := by unfold Hid; rw [HL.out]; exact HO.out
      have HRW' : Hid (StRow ts xs ts.length) := by unfold Hid; rw [HL.out, ← he]; exact HRW.out
      have hl3 : ts.length ≤ 3 := by rw [HL.out]; exact h3
      have hcl : Hid (c.args.length = ts.length) := HL.out.symm
      by_cases hx : 0 < c.index
      · have HT : Hid (ctT l c = (ctT2 l c ++ ⟨#[58]⟩) ++ dig c.index) := if_pos hx
        have HIX : Hid (ixT c.index = dig c.index) := by unfold Hid ixT; rw [if_neg (by omega), if_neg (by omega)]
        have hds := dig_size c.index
        generalize hdd : dig c.index = dd at hds HT HIX
        generalize ctT2 l c = t2 at hT2 HT HTW
        clear hdd he
        go_wp2_with (first | (go_at_call 39; rw [hcl.out]; refine (twa_any _ ts _ _ _ xs _ HO'.out HRW'.out (Nat.le_refl _) hl3 HTM.out hnm).mono ?_; rw [HTW.out]; rintro e w2 ⟨rfl, hb2⟩; have hb3 := below_after hb hb2 hb.size; have hbx2 := HX.out.at_ hb3; have e2 := hbx2.c2) | (go_at_call 40; refine (ixI_any _ _ (by omega) (by omega)).mono ?_; rw [HIX.out]; rintro e w3 ⟨rfl, rfl⟩))
        go_ret
        exact ⟨ret_str (by rw [HT.out, ByteArray.append_assoc]), below_after hb0 hb3 hb0.size⟩
      · have HT : Hid (ctT l c = ctT2 l c) := if_neg hx
        have hxI : c.index ≤ 0 := by omega
        generalize ctT2 l c = t2 at hT2 HT HTW
        clear he hx
        go_wp2_with (go_at_call 39; rw [hcl.out]; refine (twa_any _ ts _ _ _ xs _ HO'.out HRW'.out (Nat.le_refl _) hl3 HTM.out hnm).mono ?_; rw [HTW.out]; rintro e w2 ⟨rfl, hb2⟩; have hb3 := below_after hb hb2 hb.size; have hbx2 := HX.out.at_ hb3; have e2 := hbx2.c2)
        go_ret
        exact ⟨ret_str HT.out.symm, below_after hb0 hb3 hb0.size⟩
end Go.Proofs.YthebdlejoficmabDoor
/-
  The texts of worlds: FormatWorld of the program and of the document. No statement is proved here.
-/
namespace Go.Proofs.YthebdlejoficmabDoor
open Go.RowKit Go.Deep
set_option maxRecDepth 100000
set_option linter.unusedVariables false

theorem worldV_yes {A : Option Addr} {l : List Da} {cap : Nat} {w : World} (hr : RDas w w.heap.size A l) (h : WorldOK l) :
    Calls Tryd.prog 51 #[.slice A l.length cap] w fun e w' => e = .returned (.bool true) ∧ Below w.heap.size w w' := by rw [← dec_t h]; exact worldValid_spec A l cap w hr
theorem worldV_no {A : Option Addr} {l : List Da} {cap : Nat} {w : World} (hr : RDas w w.heap.size A l) (h : ¬ WorldOK l) :
    Calls Tryd.prog 51 #[.slice A l.length cap] w fun e w' => e = .returned (.bool false) ∧ Below w.heap.size w w' := by rw [← dec_f h]; exact worldValid_spec A l cap w hr
theorem worldI_yes {A : Option Addr} {l : List Da} {cap : Nat} {w : World} (hr : RDas w w.heap.size A l) (h : WorldOK l) :
    Calls Tryd.prog 9 #[.slice A l.length cap] w fun e w' => e = .returned (.bool true) ∧ Below w.heap.size w w' := by rw [← dec_t h]; exact worldValid_impl A l cap w hr
theorem worldI_no {A : Option Addr} {l : List Da} {cap : Nat} {w : World} (hr : RDas w w.heap.size A l) (h : ¬ WorldOK l) :
    Calls Tryd.prog 9 #[.slice A l.length cap] w fun e w' => e = .returned (.bool false) ∧ Below w.heap.size w w' := by rw [← dec_f h]; exact worldValid_impl A l cap w hr
/-- The text of a world, or none. -/
noncomputable def fwT (l : List Da) : ByteArray := if dec (WorldOK l) then wT l else ⟨#[]⟩
theorem fwT_yes {l : List Da} (h : WorldOK l) : fwT l = wT l := by unfold fwT; rw [dec_t h]; rfl
theorem fwT_no {l : List Da} (h : ¬ WorldOK l) : fwT l = ⟨#[]⟩ := by unfold fwT; rw [dec_f h]; rfl
theorem daT_size {l : List Da} (hw : WorldOK l) {k : Nat} (hk : k < l.length) : (daT l l[k]).size ≤ 3000 ∧ (joinB (l[k].ctors.map (ctT l)) ⟨#[124]⟩).size ≤ 2100 := by
  have hs := world_short hw
  have h4 := world_four hw hk
  have h1 := joinB_size ⟨#[124]⟩ 510 (l[k].ctors.map (ctT l)) (fun t ht => by
    obtain ⟨c, hc, rfl⟩ := List.mem_map.1 ht
    obtain ⟨m, hm, rfl⟩ := List.getElem_of_mem hc
    exact ctT_size hs (world_ct_in hw hk hm))
  rw [List.length_map] at h1
  have h2 : l[k].ctors.length * (510 + (ByteArray.mk #[124]).size) ≤ 4 * (510 + 1) := Nat.mul_le_mul h4 (Nat.le_refl _)
  have h3 := hs k hk
  unfold daT
  rw [ByteArray.size_append, ByteArray.size_append]
  have h5 : (ByteArray.mk #[61]).size = 1 := rfl
  omega

set_option maxHeartbeats 3000000 in
theorem fworld_yes (A : Option Addr) (l : List Da) (cap : Nat) (w : World) (hr : RDas w w.heap.size A l) (hw : WorldOK l) :
    Calls Tryd.prog 10 #[.slice A l.length cap] w fun e w' => e = .returned (.string (wT l)) ∧ Below w.heap.size w w' := by
  obtain ⟨i0, hi, hz0, hz1, hz2⟩ := info_parts info9s
  have hi' := hi
  have Hr := Lib.hid hr
  have HW := Lib.hid hw
  have hl4 := hw.1
  have HS := Lib.hid (world_short hw)
  have HJ := Lib.hid (wT_join l)
  have HTM : Hid (∀ t ∈ l.map (daT l), t.size ≤ 100000) := fun t ht => by
    obtain ⟨a, ha, rfl⟩ := List.mem_map.1 ht
    obtain ⟨k, hk, rfl⟩ := List.getElem_of_mem ha
    have := (daT_size hw hk).1
    omega
  have HG : Hid (∀ k (h : k < l.length) (h' : k < (l.map (daT l)).length), (l.map (daT l))[k] = daT l l[k]) := fun k h h' => List.getElem_map _
  have HL : Hid ((l.map (daT l)).length = l.length) := List.length_map _
  generalize hts : l.map (daT l) = ts at HJ HTM HG HL
  clear hr hw hts
  go_enter Tryd.func10, Tryd.ntmps10
  go_wp2_with (first | (go_at_call 9; refine (worldI_yes Hr.out HW.out).mono ?_; rintro e w1 ⟨rfl, hb1⟩) | (at_make; refine wpList_make_full _ rfl _ _ 48 rfl w1.heap.size 9 i0 _ 1 Tryd.underlying48 hi hz0 hz1 _ _ _ _ l.length rfl rfl rfl rfl (by rw [hz2]; omega) (by unfold maxLen; omega) (Nat.le_refl _) ?_; intro w2 hown hgr; have hbg := below_of_grown hgr (Nat.le_refl _)))
  go_loopw [17] (fun i wr => ∃ k : Nat, k ≤ l.length ∧ i = .int .i64 k ∧ ∃ xs, wr.ownsRow w1.heap.size 9 1 (.slice (some ⟨w1.heap.size, 0, none⟩) l.length l.length) l.length xs ∧ StRow ts xs k ∧ Below w1.heap.size w1 wr) (fun i _ => l.length - (intOf i).toNat)
  case atStart => exact ⟨0, by omega, rfl, _, hown, StRow.zero _ _, hbg⟩
  case round =>
    obtain ⟨k, hk, rfl, xs, hown, hrow, hb⟩ := hrel
    clear hgr hbg
    have hbw : Below w.heap.size w wr := below_after hb1 hb hb1.size
    have HO := Lib.hid hown
    have HRW := Lib.hid hrow
    clear hown hrow
    by_cases hlt : k < l.length
    · obtain ⟨b, off, rfl, hbB, A', cp, c0, c1, hszd, hmd⟩ := (Hr.out.below hbw (Nat.le_refl _)).2 k hlt
      have hm4 := world_four HW.out hlt
      have hnm := HS.out k hlt
      have hkl : k < ts.length := by rw [HL.out]; exact hlt
      have HGK := Lib.hid (HG.out k hlt hkl)
      have hwl : w1.heap.size < wr.heap.size := own_lt HO.out
      have hxl := HO.out.1
      have HMD : Hid (RCts w w.heap.size A' l[k].ctors) := hmd.keep (fun p hp => (hbw.cell hp).symm) (Nat.le_refl _)
      have hjz := (daT_size HW.out hlt).2
      have HDT : Hid (daT l l[k] = (l[k].name ++ ⟨#[61]⟩) ++ joinB (l[k].ctors.map (ctT l)) ⟨#[124]⟩) := rfl
      have HTM2 : Hid (∀ t ∈ l[k].ctors.map (ctT l), t.size ≤ 100000) := fun t ht => by
        obtain ⟨a, ha, rfl⟩ := List.mem_map.1 ht
        obtain ⟨j, hj, rfl⟩ := List.getElem_of_mem ha
        have := ctT_size HS.out (world_ct_in HW.out hlt hj)
        omega
      have HG2 : Hid (∀ j (h : j < l[k].ctors.length) (h' : j < (l[k].ctors.map (ctT l)).length), (l[k].ctors.map (ctT l))[j] = ctT l l[k].ctors[j]) := fun j h h' => List.getElem_map _
      have HL2 : Hid ((l[k].ctors.map (ctT l)).length = l[k].ctors.length) := List.length_map _
      generalize hts2 : l[k].ctors.map (ctT l) = ts2 at HDT HTM2 HG2 HL2 hjz
      clear hmd hts2
      generalize hwA : wr.alloc (.cells #[.string l[k].name, .slice A' l[k].ctors.length cp] 30) = wA
      have x0 : wA.cell? ⟨wr.heap.size, 0, none⟩ = some (.string l[k].name) := by rw [← hwA]; simp [go_sem]
      have x1 : wA.cell? ⟨wr.heap.size, 1, none⟩ = some (.slice A' l[k].ctors.length cp) := by rw [← hwA]; simp [go_sem]
      have hbA : Below wr.heap.size wr wA := by rw [← hwA]; exact (Below.refl _ _).alloc (Nat.le_refl _) _
      have HWA := Lib.hid hwA
      have X0 := Lib.hid x0
      clear hwA
      go_wp2_with (at_make; rw [HWA.out]; refine wpList_make_full _ rfl _ _ 48 rfl wA.heap.size 9 i0 _ 1 Tryd.underlying48 hi' hz0 hz1 _ _ _ _ l[k].ctors.length rfl rfl rfl rfl (by rw [hz2]; omega) (by unfold maxLen; omega) (Nat.le_refl _) ?_; intro w3 hown3 hgr3; have hbg3 := below_of_grown hgr3 (Nat.le_refl _); have x1' := (hbg3.cell (p := ⟨wr.heap.size, 1, none⟩) (Go.block_lt_of_cell x1)).trans x1)
      obtain ⟨wo, rfl⟩ : ∃ wo : World, wo = wr := ⟨_, rfl⟩
      go_loopw [29] (fun i wi => ∃ j : Nat, j ≤ l[k].ctors.length ∧ i = .int .i64 j ∧ ∃ ys, wi.ownsRow wA.heap.size 9 1 (.slice (some ⟨wA.heap.size, 0, none⟩) l[k].ctors.length l[k].ctors.length) l[k].ctors.length ys ∧ StRow ts2 ys j ∧ Below wA.heap.size wA wi) (fun i _ => l[k].ctors.length - (intOf i).toNat)
      case atStart => exact ⟨0, by omega, rfl, _, hown3, StRow.zero _ _, hbg3⟩
      case round =>
        obtain ⟨j, hj, rfl, ys, hown3, hrow3, hbi⟩ := hrel
        clear hgr3 hbg3 x1' x0
        have HO3 := Lib.hid hown3
        have HRW3 := Lib.hid hrow3
        clear hown3 hrow3
        have hbo : Below wo.heap.size wo wr := below_after hbA hbi hbA.size
        have hbw2 : Below w.heap.size w wr := below_after hbw hbo hbw.size
        by_cases hjt : j < l[k].ctors.length
        · obtain ⟨g, o, rfl, hgB, D1, ep, e0, e1, e2, hszm, hmm⟩ := (HMD.out.below hbw2 (Nat.le_refl _)).2 j hjt
          have hgw : g < wr.heap.size := by have := hbw2.size; omega
          have HIN := Lib.hid (world_ct_in HW.out hlt hjt)
          have hjl : j < ts2.length := by rw [HL2.out]; exact hjt
          have HGJ := Lib.hid (HG2.out j hjt hjl)
          have HRr : Hid (∀ ob : Obj, RDas (wr.alloc ob) (wr.alloc ob).heap.size (some ⟨b, off, none⟩) l) := fun ob => Hr.out.keep (fun p hp => (World.cell?_alloc_lt _ _ _ (Nat.lt_of_lt_of_le hp hbw2.size)).trans (hbw2.cell hp)) (by have := hbw2.size; simp; omega)
          have HMM : Hid (∀ ob : Obj, RTys (wr.alloc ob) (wr.alloc ob).heap.size D1 l[k].ctors[j].args) := fun ob => hmm.keep (fun p hp => World.cell?_alloc_lt _ _ _ (Nat.lt_of_lt_of_le hp hbw2.size)) (by have := hbw2.size; simp; omega)
          have hwl3 : wA.heap.size < wr.heap.size := own_lt HO3.out
          have hyl := HO3.out.1
          clear hmm
          go_wp2_with (go_at_call 25; refine (ctorText_impl _ _ l l[k].ctors[j] _ _ _ (HRr.out _) (HMM.out _) HS.out HIN.out).mono ?_; rw [← HGJ.out]; rintro e w4 ⟨rfl, hb4⟩; have hown4 := own_below (HO3.out.alloc _) hb4; obtain ⟨v0, f0⟩ := own_cell hown4 j (by omega); have g0 := hown4.frozenAt j)
          have s1 := (hown4.stored j (.string ts2[j])).1
          have hrow4 := HRW3.out.step hjl (by rw [HL2.out]; omega)
          have hb5 : Below wA.heap.size wA w4 := hbi.trans (((Below.refl _ _).alloc (Nat.le_refl _) _ |>.trans (hb4.mono (by simp))).mono hbi.size)
          go_roundw
          case rel => exact ⟨j + 1, by omega, by go_num, _, s1, hrow4, hb5.setCell (Nat.le_refl _) _⟩
          case measure => simp [intOf]; omega
        · have hje : j = l[k].ctors.length := by omega
          have HO3' : Hid (wr.ownsRow wA.heap.size 9 1 (.slice (some ⟨wA.heap.size, 0, none⟩) ts2.length ts2.length) ts2.length ys) := by unfold Hid; rw [HL2.out]; exact HO3.out
          have HRW3' : Hid (StRow ts2 ys ts2.length) := by unfold Hid; rw [HL2.out, ← hje]; exact HRW3.out
          have hl3 : ts2.length ≤ 1000 := by rw [HL2.out]; omega
          have hcl : Hid (l[k].ctors.length = ts2.length) := HL2.out.symm
          have HO1 : Hid (wr.ownsRow w1.heap.size 9 1 (.slice (some ⟨w1.heap.size, 0, none⟩) l.length l.length) l.length xs) := own_below HO.out hbo
          have z0 : wr.cell? ⟨wo.heap.size, 0, none⟩ = some (.string l[k].name) := (hbi.cell (p := ⟨wo.heap.size, 0, none⟩) (Go.block_lt_of_cell X0.out)).trans X0.out
          generalize hu : joinB ts2 ⟨#[124]⟩ = u at hjz HDT
          have HU := Lib.hid hu
          clear hje hu
          have ha1 : ∀ w : World, (Op.stringOp .add l[k].name ⟨#[61]⟩).run Tryd.prog w = .ok (.string (l[k].name ++ ⟨#[61]⟩)) w := fun w => run_string_add_sum w _ _ (by have : (ByteArray.mk #[61]).size = 1 := rfl; omega)
          have ha2 : ∀ w : World, (Op.stringOp .add (l[k].name ++ ⟨#[61]⟩) u).run Tryd.prog w = .ok (.string ((l[k].name ++ ⟨#[61]⟩) ++ u)) w := fun w => run_string_add_sum w _ _ (by rw [ByteArray.size_append]; have : (ByteArray.mk #[61]).size = 1 := rfl; omega)
          go_wp2_with fail
          have HO3d : Hid (wr.drew.ownsRow wA.heap.size 9 1 (.slice (some ⟨wA.heap.size, 0, none⟩) ts2.length ts2.length) ts2.length ys) := HO3'.out
          go_region_held3 (fun w' => w'.cell? ⟨wo.heap.size, 0, none⟩ = some (.string l[k].name)) (first | exact z0 | exact z1 | exact z2 _ | go_keep) (first | (go_at_call 26; rw [hcl.out]; refine (join_row ts2 ⟨#[124]⟩ _ _ _ ys _ HO3d.out HRW3'.out (Nat.le_refl _) hl3 HTM2.out (by decide)).mono ?_; rw [HU.out]; rintro e w6 ⟨rfl, hb6⟩; have hb6' : Below wr.heap.size wr w6 := ⟨hb6.os, hb6.tape, hb6.output, hb6.size, hb6.block⟩; have z1 := (hb6'.cell (p := ⟨wo.heap.size, 0, none⟩) (Go.block_lt_of_cell z0)).trans z0; have hown6 := own_below HO1.out hb6'; obtain ⟨v0, f0⟩ := own_cell hown6 k (by omega); have g0 := hown6.frozenAt k; have z2 : ∀ v, (w6.setCell ⟨w1.heap.size, k, none⟩ v).cell? ⟨wo.heap.size, 0, none⟩ = some (.string l[k].name) := fun v => (World.cell?_setCell_far _ _ _ _ (show w1.heap.size ≠ wo.heap.size by omega)).trans z1))
          have s1 := (hown6.stored k (.string ts[k])).1
          have hrow6 := HRW.out.step hkl (by rw [HL.out]; omega)
          have hb7 : Below w1.heap.size w1 w6 := below_after hb (below_after hbo hb6' hbo.size) hb.size
          have HV : Hid ((l[k].name ++ ⟨#[61]⟩) ++ u = ts[k]) := by unfold Hid; rw [HGK.out, HDT.out]
          go_wp2_with fail
          rw [HV.out]
          go_roundw
          case rel => exact ⟨k + 1, by omega, by go_num, _, s1, hrow6, hb7.setCell (Nat.le_refl _) _⟩
          case measure => simp [intOf]; omega
    · have he : k = l.length := by omega
      have HO' : Hid (wr.ownsRow w1.heap.size 9 1 (.slice (some ⟨w1.heap.size, 0, none⟩) ts.length ts.length) ts.length xs) := by unfold Hid; rw [HL.out]; exact HO.out
      have HRW' : Hid (StRow ts xs ts.length) := by unfold Hid; rw [HL.out, ← he]; exact HRW.out
      have hl3 : ts.length ≤ 1000 := by rw [HL.out]; omega
      have hcl : Hid (l.length = ts.length) := HL.out.symm
      clear he
      go_wp2_with (go_at_call 26; rw [hcl.out]; refine (join_row ts ⟨#[59]⟩ _ _ _ xs _ HO'.out HRW'.out (Nat.le_refl _) hl3 HTM.out (by decide)).mono ?_; rintro e w5 ⟨rfl, hb5⟩)
      go_ret
      exact ⟨ret_str HJ.out.symm, below_after hbw hb5 hbw.size⟩
end Go.Proofs.YthebdlejoficmabDoor
/-
  Different valid worlds have different texts: plain mathematics. No statement is proved here.
-/
namespace Go.Proofs.YthebdlejoficmabDoor
open Go.RowKit Go.Deep
set_option maxRecDepth 100000
set_option linter.unusedVariables false

abbrev ls (s : ByteArray) : List UInt8 := s.data.toList
theorem ls_app (a b : ByteArray) : ls (a ++ b) = ls a ++ ls b := ba_append a b
theorem ls_inj {a b : ByteArray} (h : ls a = ls b) : a = b := ba_ext h

theorem split_first {c : UInt8} : ∀ {x y R S : List UInt8}, ¬ c ∈ x → ¬ c ∈ y → x ++ c :: R = y ++ c :: S → x = y ∧ R = S
  | [], [], R, S, _, _, h => ⟨rfl, by simpa using h⟩
  | [], b :: y, R, S, _, hy, h => by
    simp only [List.nil_append, List.cons_append, List.cons.injEq] at h
    exact absurd (by rw [h.1]; exact List.mem_cons_self) hy
  | a :: x, [], R, S, hx, _, h => by
    simp only [List.nil_append, List.cons_append, List.cons.injEq] at h
    exact absurd (by rw [← h.1]; exact List.mem_cons_self) hx
  | a :: x, b :: y, R, S, hx, hy, h => by
    simp only [List.cons_append, List.cons.injEq] at h
    obtain ⟨h1, h2⟩ := split_first (fun e => hx (List.mem_cons_of_mem _ e)) (fun e => hy (List.mem_cons_of_mem _ e)) h.2
    exact ⟨by rw [h.1, h1], h2⟩
theorem join_two (x y : List UInt8) (r : List (List UInt8)) (c : UInt8) : Lib.join (x :: y :: r) [c] = x ++ c :: Lib.join (y :: r) [c] := by
  rw [Lib.join_cons, Lib.join_cons]
  simp [Lib.joinTail]
theorem join_inj {c : UInt8} : ∀ {xs ys : List (List UInt8)}, (∀ x ∈ xs, ¬ c ∈ x) → (∀ y ∈ ys, ¬ c ∈ y) → xs ≠ [] → ys ≠ [] → Lib.join xs [c] = Lib.join ys [c] → xs = ys
  | [], _, _, _, h, _, _ => absurd rfl h
  | _ :: _, [], _, _, _, h, _ => absurd rfl h
  | [x], [y], _, _, _, _, h => by rw [Lib.join_one, Lib.join_one] at h; rw [h]
  | [x], y :: y' :: r, hx, _, _, _, h => by
    rw [Lib.join_one, join_two] at h
    exact absurd (by rw [h]; simp) (hx x (List.mem_cons_self))
  | x :: x' :: r, [y], _, hy, _, _, h => by
    rw [Lib.join_one, join_two] at h
    exact absurd (by rw [← h]; simp) (hy y (List.mem_cons_self))
  | x :: x' :: r, y :: y' :: q, hx, hy, _, _, h => by
    rw [join_two, join_two] at h
    obtain ⟨h1, h2⟩ := split_first (hx x (List.mem_cons_self)) (hy y (List.mem_cons_self)) h
    have := join_inj (xs := x' :: r) (ys := y' :: q) (fun z hz => hx z (List.mem_cons_of_mem _ hz)) (fun z hz => hy z (List.mem_cons_of_mem _ hz)) (by simp) (by simp) h2
    rw [h1, this]
theorem joinB_inj {c : UInt8} {xs ys : List ByteArray} (hx : ∀ x ∈ xs, ¬ c ∈ ls x) (hy : ∀ y ∈ ys, ¬ c ∈ ls y) (h1 : xs ≠ []) (h2 : ys ≠ []) (h : ls (joinB xs ⟨#[c]⟩) = ls (joinB ys ⟨#[c]⟩)) : xs.map ls = ys.map ls := by
  rw [ls, ls, joinB_list, joinB_list] at h
  refine join_inj (c := c) ?_ ?_ (by simpa using h1) (by simpa using h2) h
  · intro x hx'
    obtain ⟨b, hb, rfl⟩ := List.mem_map.1 hx'
    exact hx b hb
  · intro x hx'
    obtain ⟨b, hb, rfl⟩ := List.mem_map.1 hx'
    exact hy b hb

/-- Bytes of names, digits and stars. -/
def gb (b : UInt8) : Prop := (65 ≤ b.toNat ∧ b.toNat ≤ 90) ∨ (97 ≤ b.toNat ∧ b.toNat ≤ 122) ∨ b.toNat = 42 ∨ (48 ≤ b.toNat ∧ b.toNat ≤ 57)
def allgb (l : List UInt8) : Prop := ∀ b ∈ l, gb b
theorem allgb.app {a b : List UInt8} (h : allgb a) (h' : allgb b) : allgb (a ++ b) := fun x hx => (List.mem_append.1 hx).elim (h x) (h' x)
theorem gb_not {l : List UInt8} (h : allgb l) {c : UInt8} (hc : ¬ gb c) : ¬ c ∈ l := fun e => hc (h c e)
theorem ng44 : ¬ gb 44 := by unfold gb; decide
theorem ng40 : ¬ gb 40 := by unfold gb; decide
theorem ng58 : ¬ gb 58 := by unfold gb; decide
theorem ng61 : ¬ gb 61 := by unfold gb; decide
theorem ng41 : ¬ gb 41 := by unfold gb; decide
theorem ng124 : ¬ gb 124 := by unfold gb; decide
theorem ng59 : ¬ gb 59 := by unfold gb; decide
theorem dig_ls {i : Int} (h : 0 ≤ i ∧ i ≤ 3) : ls (dig i) = [UInt8.ofNat (48 + i.toNat)] := by
  rcases (by omega : i = 0 ∨ i = 1 ∨ i = 2 ∨ i = 3) with rfl | rfl | rfl | rfl <;> rfl
theorem ix_list5 : ls (ixT (-1)) = [42] ∧ ls (ixT 0) = [] ∧ ls (ixT 1) = [49] ∧ ls (ixT 2) = [50] ∧ ls (ixT 3) = [51] := ⟨rfl, rfl, rfl, rfl, rfl⟩
theorem ix_inj5 {i j : Int} (hi : -1 ≤ i ∧ i ≤ 3) (hj : -1 ≤ j ∧ j ≤ 3) (e : ls (ixT i) = ls (ixT j)) : i = j := by
  obtain ⟨e4, e0, e1, e2, e3⟩ := ix_list5
  rcases (by omega : i = -1 ∨ i = 0 ∨ i = 1 ∨ i = 2 ∨ i = 3) with rfl | rfl | rfl | rfl | rfl <;> rcases (by omega : j = -1 ∨ j = 0 ∨ j = 1 ∨ j = 2 ∨ j = 3) with rfl | rfl | rfl | rfl | rfl <;> first | rfl | (exfalso; revert e; simp only [e0, e1, e2, e3, e4]; decide)
theorem ix_gb {i : Int} (hi : -1 ≤ i ∧ i ≤ 3) : allgb (ls (ixT i)) := by
  obtain ⟨e4, e0, e1, e2, e3⟩ := ix_list5
  rcases (by omega : i = -1 ∨ i = 0 ∨ i = 1 ∨ i = 2 ∨ i = 3) with rfl | rfl | rfl | rfl | rfl
  · rw [e4]; intro b hb; simp only [List.mem_singleton] at hb; subst hb; unfold gb; decide
  · rw [e0]; intro b hb; cases hb
  · rw [e1]; intro b hb; simp only [List.mem_singleton] at hb; subst hb; unfold gb; decide
  · rw [e2]; intro b hb; simp only [List.mem_singleton] at hb; subst hb; unfold gb; decide
  · rw [e3]; intro b hb; simp only [List.mem_singleton] at hb; subst hb; unfold gb; decide
/-- The name of a data type is one uppercase letter. -/
theorem data_up {l : List Da} (h : WorldOK l) {a : Nat} (ha : a < l.length) : ∃ b : UInt8, ls l[a].name = [b] ∧ 65 ≤ b.toNat ∧ b.toNat ≤ 90 ∧ b.toNat ≠ 73 := by
  have h1 := h.2.1 a ha ha
  unfold dataB dnameB at h1
  simp only [Bool.and_eq_true, decide_eq_true_eq] at h1
  obtain ⟨b, hb⟩ := List.length_eq_one_iff.1 (data_nm h ha).1
  refine ⟨b, hb, ?_⟩
  have h2 : upB (b.toNat : Int) = true := by
    have := h1.1.2.1
    rw [hb] at this
    exact this
  have h3 : 65 ≤ (b.toNat : Int) ∧ (b.toNat : Int) ≤ 90 := by
    unfold upB at h2
    simpa using h2
  refine ⟨by omega, by omega, fun e => (data_nm h ha).2 ?_⟩
  rw [hb]
  congr 1
  exact UInt8.toNat_inj.1 (by rw [e]; rfl)
theorem data_gb {l : List Da} (h : WorldOK l) {a : Nat} (ha : a < l.length) : allgb (ls l[a].name) := by
  obtain ⟨b, hb, h1, h2, _⟩ := data_up h ha
  rw [hb]; intro x hx; simp only [List.mem_singleton] at hx; subst hx; exact .inl ⟨h1, h2⟩

/-- An argument's type. -/
def ArgOK (l : List Da) (t : Ty) : Prop := argB l.length (-1) t = true
theorem arg_parts {l : List Da} {t : Ty} (h : ArgOK l t) : (t.data = -1 ∧ t.index = 0) ∨ ∃ d : Nat, t.data = d ∧ d < l.length ∧ -1 ≤ t.index ∧ t.index ≤ 3 := by
  unfold ArgOK at h
  by_cases hb : t.data = -1
  · rw [argB_int hb] at h
    exact .inl ⟨hb, of_decide_eq_true h⟩
  · rw [argB_data hb] at h
    have := of_decide_eq_true h
    exact .inr ⟨t.data.toNat, by omega, by omega, by omega, by omega⟩
theorem ty_ls {l : List Da} {d : Nat} {i : Int} (hd : d < l.length) : ls (tyT l ⟨d, i⟩) = ls l[d].name ++ ls (ixT i) := by rw [tyT_data hd, ls_app]
theorem ty_gb {l : List Da} (h : WorldOK l) {t : Ty} (ht : ArgOK l t) : allgb (ls (tyT l t)) := by
  obtain ⟨a, i⟩ := t
  rcases arg_parts ht with ⟨h1, _⟩ | ⟨d, h1, hd, h2, h3⟩ <;> simp only at h1 <;> subst h1
  · rw [tyT_int rfl]; intro b hb; have hb' : b ∈ [(73 : UInt8)] := hb; simp only [List.mem_singleton] at hb'; subst hb'; unfold gb; decide
  · rw [ty_ls hd]; exact (data_gb h hd).app (ix_gb ⟨h2, h3⟩)
theorem ty_inj {l : List Da} (h : WorldOK l) {t u : Ty} (ht : ArgOK l t) (hu : ArgOK l u) (e : ls (tyT l t) = ls (tyT l u)) : t = u := by
  obtain ⟨a, i⟩ := t
  obtain ⟨b, j⟩ := u
  have hI : ls (ByteArray.mk #[73]) = [73] := rfl
  have key : ∀ (d : Nat) (k : Int), d < l.length → ¬ ls (tyT l ⟨d, k⟩) = [73] := fun d k hd e => by
    obtain ⟨x, hx, _, _, h73⟩ := data_up h hd
    rw [ty_ls hd, hx] at e
    simp only [List.singleton_append, List.cons.injEq] at e
    exact h73 (by rw [e.1]; rfl)
  rcases arg_parts ht with ⟨h1, h1'⟩ | ⟨x, h1, hx, h1', h1''⟩ <;> rcases arg_parts hu with ⟨h2, h2'⟩ | ⟨y, h2, hy, h2', h2''⟩ <;> simp only at h1 h2 h1' h2' <;> subst h1 <;> subst h2
  · rw [h1', h2']
  · rw [tyT_int (t := ⟨-1, i⟩) rfl, hI] at e
    exact absurd e.symm (key y j hy)
  · rw [tyT_int (t := ⟨-1, j⟩) rfl, hI] at e
    exact absurd e (key x i hx)
  · rw [ty_ls hx, ty_ls hy] at e
    have h3 := List.append_inj e (by rw [(data_nm h hx).1, (data_nm h hy).1])
    have hxy := name_inj h hx hy (ls_inj h3.1)
    subst hxy
    simp only at h1'' h2''
    rw [ix_inj5 ⟨h1', h1''⟩ ⟨h2', h2''⟩ h3.2]

theorem ctor_inj_parts {n : Int} {c : Ct} (h : ctorB n c = true) : nameB c.name = true ∧ (0 ≤ c.index ∧ c.index ≤ 3) ∧ ∀ a ∈ c.args, argB n (-1) a = true := by
  obtain ⟨h1, h2⟩ := ctor_parts h
  unfold ctorB at h
  simp only [Bool.and_eq_true] at h
  exact ⟨h.1, h1, h2⟩
theorem name_gb {s : ByteArray} (h : nameB s = true) : allgb (ls s) := by
  unfold nameB at h
  simp only [Bool.and_eq_true, decide_eq_true_eq] at h
  obtain ⟨h1, h2, h3, h4⟩ := h
  unfold lowsUpto at h4
  rw [List.take_of_length_le (by simp)] at h4
  intro b hb
  cases hl : s.data.toList with
  | nil => rw [ls, hl] at hb; cases hb
  | cons x r =>
    rw [hl] at h3 h4
    simp only [List.drop_one, List.tail_cons, List.all_eq_true] at h4
    simp only [List.headD_cons] at h3
    rw [ls, hl] at hb
    rcases List.mem_cons.1 hb with rfl | hb'
    · have : 65 ≤ (b.toNat : Int) ∧ (b.toNat : Int) ≤ 90 := by unfold upB at h3; simpa using h3
      exact .inl ⟨by omega, by omega⟩
    · have := h4 b hb'
      have : 97 ≤ (b.toNat : Int) ∧ (b.toNat : Int) ≤ 122 := by unfold lowB at this; simpa using this
      exact .inr (.inl ⟨by omega, by omega⟩)
/-- The same names: the same texts of types. -/
theorem ty_same {a b : List Da} (h : a.map (ls ·.name) = b.map (ls ·.name)) (t : Ty) : tyT a t = tyT b t := by
  unfold tyT
  split
  · rfl
  · have e : (a.getD t.data.toNat default).name = (b.getD t.data.toNat default).name := by
      apply ls_inj
      have := congrArg (fun l : List (List UInt8) => l.getD t.data.toNat (ls (default : Da).name)) h
      simp only [List.getD_eq_getElem?_getD, List.getElem?_map] at this
      rw [List.getD_eq_getElem?_getD, List.getD_eq_getElem?_getD]
      cases h1 : a[t.data.toNat]? <;> cases h2 : b[t.data.toNat]? <;> rw [h1, h2] at this <;> simpa using this
    rw [e]
theorem ctT2_ls {l : List Da} {c : Ct} (h : 0 < c.args.length) : ls (ctT2 l c) = ls c.name ++ 40 :: (ls (joinB (c.args.map (tyT l)) ⟨#[44]⟩) ++ [41]) := by
  rw [ctT2_join h, ls_app, ls_app, ls_app]
  simp [ls]
theorem ctT_ls {l : List Da} {c : Ct} (h : 0 < c.index) : ls (ctT l c) = ls (ctT2 l c) ++ 58 :: ls (dig c.index) := by
  have : ctT l c = (ctT2 l c ++ ⟨#[58]⟩) ++ dig c.index := if_pos h
  rw [this, ls_app, ls_app]
  simp [ls]
theorem join_gb {xs : List ByteArray} {c : UInt8} (h : ∀ x ∈ xs, allgb (ls x)) : ∀ b ∈ ls (joinB xs ⟨#[c]⟩), gb b ∨ b = c := by
  intro b hb
  rw [ls, joinB_list] at hb
  cases xs with
  | nil => simp [Lib.join_nil] at hb
  | cons x r =>
    rw [List.map_cons, Lib.join_cons] at hb
    rcases List.mem_append.1 hb with hb | hb
    · exact .inl (h x (List.mem_cons_self) b hb)
    · unfold Lib.joinTail at hb
      obtain ⟨z, hz, hbz⟩ := List.mem_flatten.1 hb
      obtain ⟨y, hy, rfl⟩ := List.mem_map.1 hz
      obtain ⟨y', hy', rfl⟩ := List.mem_map.1 hy
      rcases List.mem_append.1 hbz with hbz | hbz
      · right; simpa using hbz
      · exact .inl (h y' (List.mem_cons_of_mem _ hy') b hbz)
/-- What stands in the text of a constructor ahead of its index. -/
def cb (b : UInt8) : Prop := gb b ∨ b = 40 ∨ b = 41 ∨ b = 44
section
variable {a b : List Da} {c e : Ct}
theorem ctT2_cb (hw : WorldOK a) (h : ctorB a.length c = true) : ∀ x ∈ ls (ctT2 a c), cb x := by
  obtain ⟨h1, _, h3⟩ := ctor_inj_parts h
  intro x hx
  by_cases hp : 0 < c.args.length
  · rw [ctT2_ls hp] at hx
    rcases List.mem_append.1 hx with hx | hx
    · exact .inl (name_gb h1 x hx)
    · rcases List.mem_cons.1 hx with rfl | hx
      · exact .inr (.inl rfl)
      · rcases List.mem_append.1 hx with hx | hx
        · rcases join_gb (fun y hy => by
            obtain ⟨t, ht, rfl⟩ := List.mem_map.1 hy
            exact ty_gb hw (h3 t ht)) x hx with hx | hx
          · exact .inl hx
          · exact .inr (.inr (.inr hx))
        · exact .inr (.inr (.inl (by simpa using hx)))
  · rw [ctT2_none (by omega)] at hx
    exact .inl (name_gb h1 x hx)
theorem cb_not {x : UInt8} (h : cb x) : x ≠ 58 ∧ x ≠ 59 ∧ x ≠ 61 ∧ x ≠ 124 := by
  refine ⟨?_, ?_, ?_, ?_⟩ <;> rintro rfl <;> rcases h with h | h | h | h <;> first | (revert h; decide) | (revert h; unfold gb; decide)
theorem ctT_not (hw : WorldOK a) (h : ctorB a.length c = true) : ∀ x ∈ ls (ctT a c), x ≠ 59 ∧ x ≠ 61 ∧ x ≠ 124 := by
  obtain ⟨_, h2, _⟩ := ctor_inj_parts h
  intro x hx
  by_cases hp : 0 < c.index
  · rw [ctT_ls hp] at hx
    rcases List.mem_append.1 hx with hx | hx
    · exact (cb_not (ctT2_cb hw h x hx)).2
    · rcases List.mem_cons.1 hx with rfl | hx
      · decide
      · rw [dig_ls ⟨by omega, by omega⟩] at hx
        simp only [List.mem_singleton] at hx
        subst hx
        rcases (by omega : c.index = 1 ∨ c.index = 2 ∨ c.index = 3) with e | e | e <;> rw [e] <;> decide
  · have : ctT a c = ctT2 a c := if_neg hp
    rw [this] at hx
    exact (cb_not (ctT2_cb hw h x hx)).2
theorem ctT2_inj (hw : WorldOK a) (h : ctorB a.length c = true) (h' : ctorB a.length e = true) (he : ls (ctT2 a c) = ls (ctT2 a e)) : c.name = e.name ∧ c.args = e.args := by
  obtain ⟨h1, _, h3⟩ := ctor_inj_parts h
  obtain ⟨h1', _, h3'⟩ := ctor_inj_parts h'
  by_cases hp : 0 < c.args.length <;> by_cases hq : 0 < e.args.length
  · rw [ctT2_ls hp, ctT2_ls hq] at he
    obtain ⟨g1, g2⟩ := split_first (gb_not (name_gb h1) ng40) (gb_not (name_gb h1') ng40) he
    have g3 := List.append_cancel_right g2
    have g4 := joinB_inj (c := 44) (fun y hy => by
      obtain ⟨t, ht, rfl⟩ := List.mem_map.1 hy
      exact gb_not (ty_gb hw (h3 t ht)) ng44) (fun y hy => by
      obtain ⟨t, ht, rfl⟩ := List.mem_map.1 hy
      exact gb_not (ty_gb hw (h3' t ht)) ng44) (by intro e0; have := congrArg List.length e0; rw [List.length_map] at this; simp at this; rw [this] at hp; simp at hp) (by intro e0; have := congrArg List.length e0; rw [List.length_map] at this; simp at this; rw [this] at hq; simp at hq) g3
    refine ⟨ls_inj g1, ?_⟩
    have hlen : c.args.length = e.args.length := by simpa using congrArg List.length g4
    refine List.ext_getElem hlen fun i hi hi' => ?_
    have := congrArg (fun l : List (List UInt8) => l[i]?) g4
    simp only [List.getElem?_map, List.getElem?_eq_getElem hi, List.getElem?_eq_getElem hi', Option.map_some, Option.some.injEq] at this
    exact ty_inj hw (h3 _ (List.getElem_mem hi)) (h3' _ (List.getElem_mem hi')) this
  · rw [ctT2_ls hp, ctT2_none (c := e) (by omega)] at he
    exact absurd (by rw [← he]; simp) (gb_not (name_gb h1') ng40)
  · rw [ctT2_ls hq, ctT2_none (c := c) (by omega)] at he
    exact absurd (by rw [he]; simp) (gb_not (name_gb h1) ng40)
  · rw [ctT2_none (by omega), ctT2_none (by omega)] at he
    refine ⟨ls_inj he, ?_⟩
    rw [List.eq_nil_of_length_eq_zero (by omega : c.args.length = 0), List.eq_nil_of_length_eq_zero (by omega : e.args.length = 0)]
theorem dig_inj {i j : Int} (hi : 0 ≤ i ∧ i ≤ 3) (hj : 0 ≤ j ∧ j ≤ 3) (e : ls (dig i) = ls (dig j)) : i = j := by
  rw [dig_ls hi, dig_ls hj] at e
  rcases (by omega : i = 0 ∨ i = 1 ∨ i = 2 ∨ i = 3) with rfl | rfl | rfl | rfl <;> rcases (by omega : j = 0 ∨ j = 1 ∨ j = 2 ∨ j = 3) with rfl | rfl | rfl | rfl <;> first | rfl | (revert e; decide)
theorem ctT_inj (hw : WorldOK a) (h : ctorB a.length c = true) (h' : ctorB a.length e = true) (he : ls (ctT a c) = ls (ctT a e)) : c = e := by
  obtain ⟨_, h2, _⟩ := ctor_inj_parts h
  obtain ⟨_, h2', _⟩ := ctor_inj_parts h'
  have n1 : ¬ (58 : UInt8) ∈ ls (ctT2 a c) := fun hx => (cb_not (ctT2_cb hw h _ hx)).1 rfl
  have n2 : ¬ (58 : UInt8) ∈ ls (ctT2 a e) := fun hx => (cb_not (ctT2_cb hw h' _ hx)).1 rfl
  have hh : ls (ctT2 a c) = ls (ctT2 a e) ∧ c.index = e.index := by
    by_cases hp : 0 < c.index <;> by_cases hq : 0 < e.index
    · rw [ctT_ls hp, ctT_ls hq] at he
      obtain ⟨g1, g2⟩ := split_first n1 n2 he
      exact ⟨g1, dig_inj ⟨by omega, by omega⟩ ⟨by omega, by omega⟩ g2⟩
    · have : ctT a e = ctT2 a e := if_neg hq
      rw [ctT_ls hp, this] at he
      exact absurd (by rw [← he]; simp) n2
    · have : ctT a c = ctT2 a c := if_neg hp
      rw [ctT_ls hq, this] at he
      exact absurd (by rw [he]; simp) n1
    · have e1 : ctT a c = ctT2 a c := if_neg hp
      have e2 : ctT a e = ctT2 a e := if_neg hq
      rw [e1, e2] at he
      exact ⟨he, by omega⟩
  obtain ⟨g1, g2⟩ := ctT2_inj hw h h' hh.1
  cases c; cases e
  simp only at g1 g2 hh
  rw [g1, g2, hh.2]
end
theorem ct_same {a b : List Da} (h : a.map (ls ·.name) = b.map (ls ·.name)) (c : Ct) : ctT a c = ctT b c := by
  have h1 : tyT a = tyT b := funext (ty_same h)
  have h2 : ctT2 a c = ctT2 b c := by
    by_cases hp : 0 < c.args.length
    · rw [ctT2_join hp, ctT2_join hp, h1]
    · rw [ctT2_none (by omega), ctT2_none (by omega)]
  unfold ctT
  rw [h2]
theorem daT_ls (l : List Da) (d : Da) : ls (daT l d) = ls d.name ++ 61 :: ls (joinB (d.ctors.map (ctT l)) ⟨#[124]⟩) := by
  unfold daT
  rw [ls_app, ls_app]
  simp [ls]
theorem daT_not {l : List Da} (hw : WorldOK l) {k : Nat} (hk : k < l.length) : ¬ (59 : UInt8) ∈ ls (daT l l[k]) := by
  intro hx
  rw [daT_ls] at hx
  rcases List.mem_append.1 hx with hx | hx
  · exact gb_not (data_gb hw hk) ng59 hx
  · rcases List.mem_cons.1 hx with hx | hx
    · revert hx; decide
    · rw [ls, joinB_list] at hx
      cases hc : l[k].ctors with
      | nil => rw [hc] at hx; simp [Lib.join_nil] at hx
      | cons x r =>
        rw [hc, List.map_cons, List.map_cons, Lib.join_cons] at hx
        have hall : ∀ c ∈ l[k].ctors, ¬ (59 : UInt8) ∈ ls (ctT l c) := fun c hcm hx => by
          obtain ⟨m, hm, rfl⟩ := List.getElem_of_mem hcm
          exact (ctT_not hw (world_ctor hw hk hm) _ hx).1 rfl
        rw [hc] at hall
        rcases List.mem_append.1 hx with hx | hx
        · exact hall x (List.mem_cons_self) hx
        · unfold Lib.joinTail at hx
          obtain ⟨z, hz, hbz⟩ := List.mem_flatten.1 hx
          obtain ⟨y, hy, rfl⟩ := List.mem_map.1 hz
          obtain ⟨y', hy', rfl⟩ := List.mem_map.1 hy
          obtain ⟨c, hcm, rfl⟩ := List.mem_map.1 hy'
          rcases List.mem_append.1 hbz with hbz | hbz
          · revert hbz; decide
          · exact hall c (List.mem_cons_of_mem _ hcm) hbz
/-- Two valid worlds with one text are one world. -/
theorem world_inj {a b : List Da} (ha : WorldOK a) (hb : WorldOK b) (e : wT a = wT b) : a = b := by
  have he := congrArg ls e
  rw [wT_join, wT_join] at he
  have hne : ∀ l : List Da, WorldOK l → l ≠ [] → ls (joinB (l.map (daT l)) ⟨#[59]⟩) ≠ [] := fun l hl hn e0 => by
    cases l with
    | nil => exact hn rfl
    | cons d r =>
      rw [ls, joinB_list, List.map_cons, List.map_cons, Lib.join_cons] at e0
      have := congrArg List.length e0
      rw [List.length_append] at this
      have h2 : (ls (daT (d :: r) d)).length = 0 := by have h3 : (daT (d :: r) d).data.toList.length + _ = 0 := this; unfold ls; omega
      rw [daT_ls, List.length_append, List.length_cons] at h2
      omega
  by_cases ha0 : a = [] <;> by_cases hb0 : b = []
  · rw [ha0, hb0]
  · subst ha0
    exact absurd he.symm (hne b hb hb0)
  · subst hb0
    exact absurd he (hne a ha ha0)
  · have g := joinB_inj (c := 59) (fun y hy => by
      obtain ⟨d, hd, rfl⟩ := List.mem_map.1 hy
      obtain ⟨k, hk, rfl⟩ := List.getElem_of_mem hd
      exact daT_not ha hk) (fun y hy => by
      obtain ⟨d, hd, rfl⟩ := List.mem_map.1 hy
      obtain ⟨k, hk, rfl⟩ := List.getElem_of_mem hd
      exact daT_not hb hk) (by simpa using ha0) (by simpa using hb0) he
    have hlen : a.length = b.length := by simpa using congrArg List.length g
    have hk : ∀ k (h : k < a.length) (h' : k < b.length), ls a[k].name = ls b[k].name ∧ ls (joinB (a[k].ctors.map (ctT a)) ⟨#[124]⟩) = ls (joinB (b[k].ctors.map (ctT b)) ⟨#[124]⟩) := fun k h h' => by
      have := congrArg (fun l : List (List UInt8) => l[k]?) g
      simp only [List.getElem?_map, List.getElem?_eq_getElem h, List.getElem?_eq_getElem h', Option.map_some, Option.some.injEq] at this
      rw [daT_ls, daT_ls] at this
      exact split_first (gb_not (data_gb ha h) ng61) (gb_not (data_gb hb h') ng61) this
    have hnames : a.map (ls ·.name) = b.map (ls ·.name) := by
      refine List.ext_getElem (by simpa using hlen) fun i hi hi' => ?_
      rw [List.getElem_map, List.getElem_map]
      exact (hk i (by simpa using hi) (by simpa using hi')).1
    refine List.ext_getElem hlen fun k h h' => ?_
    obtain ⟨g1, g2⟩ := hk k h h'
    have hct : ctT b = ctT a := funext fun c => (ct_same hnames c).symm
    rw [hct] at g2
    have hca : ∀ c ∈ a[k].ctors, ctorB a.length c = true := fun c hc => by
      obtain ⟨m, hm, rfl⟩ := List.getElem_of_mem hc
      exact world_ctor ha h hm
    have hcb : ∀ c ∈ b[k].ctors, ctorB a.length c = true := fun c hc => by
      obtain ⟨m, hm, rfl⟩ := List.getElem_of_mem hc
      have := world_ctor hb h' hm
      rwa [← hlen] at this
    have l1 := data_len4 (ha.2.1 k h h)
    have l2 := data_len4 (hb.2.1 k h' h')
    have g4 := joinB_inj (c := 124) (fun y hy => by
      obtain ⟨c, hc, rfl⟩ := List.mem_map.1 hy
      exact fun hx => (ctT_not ha (hca c hc) _ hx).2.2 rfl) (fun y hy => by
      obtain ⟨c, hc, rfl⟩ := List.mem_map.1 hy
      exact fun hx => (ctT_not ha (hcb c hc) _ hx).2.2 rfl) (by intro e0; have := congrArg List.length e0; rw [List.length_map, List.length_nil] at this; omega) (by intro e0; have := congrArg List.length e0; rw [List.length_map, List.length_nil] at this; omega) g2
    have hcl : a[k].ctors.length = b[k].ctors.length := by simpa using congrArg List.length g4
    have hcs : a[k].ctors = b[k].ctors := by
      refine List.ext_getElem hcl fun i hi hi' => ?_
      have := congrArg (fun l : List (List UInt8) => l[i]?) g4
      simp only [List.getElem?_map, List.getElem?_eq_getElem hi, List.getElem?_eq_getElem hi', Option.map_some, Option.some.injEq] at this
      exact ctT_inj ha (hca _ (List.getElem_mem hi)) (hcb _ (List.getElem_mem hi')) this
    have hn := ls_inj g1
    cases hA : a[k]
    cases hB : b[k]
    rw [hA, hB] at hcs hn
    simp only at hcs hn
    rw [hcs, hn]
end Go.Proofs.YthebdlejoficmabDoor
/-
  The law FnExactFormatWorld walked. No statement is proved here.
-/
namespace Go.Proofs.YthebdlejoficmabDoor
open Go.RowKit Go.Deep
set_option maxRecDepth 100000
set_option linter.unusedVariables false

theorem fworld_impl (A : Option Addr) (l : List Da) (cap : Nat) (w : World) (hr : RDas w w.heap.size A l) :
    Calls Tryd.prog 10 #[.slice A l.length cap] w fun e w' => e = .returned (.string (fwT l)) ∧ Below w.heap.size w w' := by
  by_cases h : WorldOK l
  · rw [fwT_yes h]; exact fworld_yes A l cap w hr h
  · have Hr := Lib.hid hr
    have HT := Lib.hid (fwT_no h)
    clear hr
    go_enter Tryd.func10, Tryd.ntmps10
    go_wp2_with (go_at_call 9; refine (worldI_no Hr.out h).mono ?_; rintro e w1 ⟨rfl, hb1⟩)
    go_ret
    exact ⟨ret_str HT.out.symm, hb1⟩

end Go.Proofs.YthebdlejoficmabDoor
