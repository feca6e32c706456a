/-
  The texts of types and constructors: the document's functions. No statement is proved here.
-/
import Derived.Test.YthebdlejoficmaaDoorParseC2
import Derived.Test.YthebdlejoficmaaDoorTable2
import Derived.Test.YthebdlejoficmaaDoorTypeValid
namespace Go.Proofs.YthebdlejoficmaaDoor
open Go.RowKit Go.Deep
set_option maxRecDepth 100000
set_option linter.unusedVariables false

theorem ret_str {a b : ByteArray} (h : a = b) : Ending.returned (.string a) = .returned (.string b) := by rw [h]
/-- A digit. -/
def dig (n : Int) : ByteArray := one (48 + n) ++ ⟨#[]⟩
theorem dig_size (n : Int) : (dig n).size = 1 := rfl
def ixT (i : Int) : ByteArray := if i = 0 then ⟨#[]⟩ else if i = -1 then ⟨#[42]⟩ else dig i
theorem ixT_size (i : Int) : (ixT i).size ≤ 1 := by
  unfold ixT
  split
  · exact Nat.zero_le _
  · split
    · exact Nat.le_refl _
    · rw [dig_size]; exact Nat.le_refl _
theorem dec_any (n : Int) (w : World) (h0 : 0 ≤ n) (h9 : n ≤ 9) :
    Calls Tryd.prog 62 #[.int .i64 n] w fun e w' => e = .returned (.string (dig n)) ∧ Below w.heap.size w w' := by
  have hcv := conv_one w (48 + n)
  have hos := one_size (48 + n)
  have HB : Hid (∀ o : Obj, Below w.heap.size w (w.alloc o)) := fun o => (Below.refl _ _).alloc (Nat.le_refl _) _
  have HD : Hid (dig n = one (48 + n) ++ ⟨#[]⟩) := rfl
  go_enter Tryd.func62, Tryd.ntmps62
  go_wp2_with fail
  go_loop [0, 3] (fun q t => q = .int .i64 n ∧ t = .string ⟨#[]⟩) (fun _ _ => 0)
  case atStart => exact ⟨rfl, rfl⟩
  case round =>
    obtain ⟨rfl, rfl⟩ := hrel
    go_wp2_with fail
    go_ret
    exact ⟨ret_str HD.out.symm, HB.out _⟩
theorem idx_any (i : Int) (w : World) (h0 : -1 ≤ i) (h9 : i ≤ 9) :
    Calls Tryd.prog 38 #[.int .i64 i] w fun e w' => e = .returned (.string (ixT i)) ∧ Below w.heap.size w w' := by
  by_cases h1 : i = 0
  · have q := ieq_t h1
    have HD : Hid (ixT i = ⟨#[]⟩) := if_pos h1
    clear h1
    go_enter Tryd.func38, Tryd.ntmps38
    go_wp2_with fail
    go_ret
    exact ⟨ret_str HD.out.symm, Below.refl _ _⟩
  · by_cases h2 : i = -1
    · have q := ieq_f h1
      have q2 := ieq_t h2
      have HD : Hid (ixT i = ⟨#[42]⟩) := by unfold Hid ixT; rw [if_neg h1, if_pos h2]
      clear h1 h2
      go_enter Tryd.func38, Tryd.ntmps38
      go_wp2_with fail
      go_ret
      exact ⟨ret_str HD.out.symm, Below.refl _ _⟩
    · have q := ieq_f h1
      have q2 := ieq_f h2
      have HD : Hid (ixT i = dig i) := by unfold Hid ixT; rw [if_neg h1, if_neg h2]
      have h3 : 0 ≤ i := by omega
      clear h1 h2
      go_enter Tryd.func38, Tryd.ntmps38
      go_wp2_with fail
      refine (dec_any _ _ h3 h9).mono ?_
      rintro e w1 ⟨rfl, hb⟩
      go_wp2_with fail
      go_ret
      exact ⟨ret_str HD.out.symm, hb⟩

/-- The text of a type. -/
def tyT (l : List Da) (t : Ty) : ByteArray := if t.data = -1 then ⟨#[73]⟩ else (l.getD t.data.toNat default).name ++ ixT t.index
theorem tyT_int {l : List Da} {t : Ty} (h : t.data = -1) : tyT l t = ⟨#[73]⟩ := if_pos h
theorem tyT_data {l : List Da} {d : Nat} {i : Int} (hd : d < l.length) : tyT l ⟨d, i⟩ = l[d].name ++ ixT i := by
  have e : l.getD d default = l[d] := by simp [List.getD, List.getElem?_eq_getElem hd]
  unfold tyT
  rw [if_neg (by simp only; omega)]
  simp only [Int.toNat_natCast, e]
theorem type_int (A : Option Addr) (n cap : Nat) (i : Int) (w : World) :
    Calls Tryd.prog 20 #[.slice A n cap, .agg #[.int .i64 (-1), .int .i64 i]] w fun e w' => e = .returned (.string ⟨#[73]⟩) ∧ Below w.heap.size w w' := by
  have HB : Hid (∀ o : Obj, Below w.heap.size w (w.alloc o)) := fun o => (Below.refl _ _).alloc (Nat.le_refl _) _
  go_enter Tryd.func20, Tryd.ntmps20
  go_wp2_with fail
  go_ret
  exact ⟨rfl, HB.out _⟩
set_option maxHeartbeats 800000 in
theorem type_data (A : Option Addr) (l : List Da) (cap d : Nat) (i : Int) (w : World) (hr : RDas w w.heap.size A l) (hd : d < l.length) (hn : l[d].name.size ≤ 100) (h0 : -1 ≤ i) (h9 : i ≤ 9) :
    Calls Tryd.prog 20 #[.slice A l.length cap, .agg #[.int .i64 d, .int .i64 i]] w fun e w' => e = .returned (.string (l[d].name ++ ixT i)) ∧ Below w.heap.size w w' := by
  have hm := hr.1
  unfold maxLen at hm
  obtain ⟨b, off, rfl, hbB, A', cp, c0, c1, _, _⟩ := hr.2 d hd
  clear hr c1
  have q0 : ((d : Int) == -1) = false := ieq_f (by omega)
  have hdI : (d : Int) < (l.length : Int) := by omega
  have hd0 : (0 : Int) ≤ (d : Int) := Int.natCast_nonneg _
  have hxs := ixT_size i
  generalize hw0 : w.alloc (.cells #[.int .i64 d, .int .i64 i] 29) = w0
  have x0 : w0.cell? ⟨w.heap.size, 0, none⟩ = some (.int .i64 d) := by rw [← hw0]; simp [go_sem]
  have x1 : w0.cell? ⟨w.heap.size, 1, none⟩ = some (.int .i64 i) := by rw [← hw0]; simp [go_sem]
  have x2 : w0.cell? ⟨b, off + d * 2, none⟩ = some (.string l[d].name) := by rw [← hw0]; exact (World.cell?_alloc_lt _ _ _ hbB).trans c0
  have hb0 : Below w.heap.size w w0 := by rw [← hw0]; exact (Below.refl _ _).alloc (Nat.le_refl _) _
  have HW := Lib.hid hw0
  clear hw0 c0
  go_enter Tryd.func20, Tryd.ntmps20
  go_wp2_with fail
  rw [HW.out]
  have hadd : ∀ w : World, (Op.stringOp .add l[d].name (ixT i)).run Tryd.prog w = .ok (.string (l[d].name ++ ixT i)) w := fun w => run_string_add_sum w _ _ (by omega)
  go_region_held3 (fun w' => w'.cell? ⟨w.heap.size, 0, none⟩ = some (.int .i64 d) ∧ w'.cell? ⟨w.heap.size, 1, none⟩ = some (.int .i64 i) ∧ w'.cell? ⟨b, off + d * 2, none⟩ = some (.string l[d].name)) (first | exact ⟨x0, x1, x2⟩ | exact ⟨y0, y1, y2⟩ | go_keep) (first | (go_at_call 38; refine (idx_any _ _ h0 h9).mono ?_; rintro e w1 ⟨rfl, hb1⟩; have hb1' : Below w0.heap.size w0 w1 := ⟨hb1.os, hb1.tape, hb1.output, hb1.size, hb1.block⟩; have y0 := (hb1'.cell (p := ⟨w.heap.size, 0, none⟩) (Go.block_lt_of_cell x0)).trans x0; have y1 := (hb1'.cell (p := ⟨w.heap.size, 1, none⟩) (Go.block_lt_of_cell x1)).trans x1; have y2 := (hb1'.cell (p := ⟨b, off + d * 2, none⟩) (Go.block_lt_of_cell x2)).trans x2))
  have hbF := below_after hb0 hb1' hb0.size
  go_wp2_with fail
  go_ret
  exact ⟨rfl, hbF⟩
end Go.Proofs.YthebdlejoficmaaDoor
