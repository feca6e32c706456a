/-
  The texts of types and constructors: the document's functions. No statement is proved here.
-/
import Derived.Test.YteoopmogklpnoaaT11
import Derived.Test.YteoopmogklpnoaaT09
import Derived.Test.YteoopmogklpnoaaT14
namespace Go.Proofs.Yteoopmogklpnoaa
open Go.RowKit Go.Deep
set_option maxRecDepth 100000
set_option linter.unusedVariables false
theorem ret_str {a b : ByteArray} (h : a = b) : Ending.returned (.string a) = .returned (.string b) := by rw [h]
/-- A digit. -/
def dig (n : Int) : ByteArray := one (48 + n) ++ ⟨#[]⟩
theorem dig_size (n : Int) : (dig n).size = 1 := rfl
def ixT (i : Int) : ByteArray := if i = 0 then ⟨#[]⟩ else if i = -1 then ⟨#[42]⟩ else dig i
theorem ixT_size (i : Int) : (ixT i).size ≤ 1 := by
  unfold ixT
  split
  · exact Nat.zero_le _
  · split
    · exact Nat.le_refl _
    · rw [dig_size]; exact Nat.le_refl _
theorem dec_any (n : Int) (w : World) (h0 : 0 ≤ n) (h9 : n ≤ 9) :
    Calls Try.prog 159 #[.int .i64 n] w fun e w' => e = .returned (.string (dig n)) ∧ Below w.heap.size w w' := by
  have hcv := conv_one w (48 + n)
  have hos := one_size (48 + n)
  have HB : Hid (∀ o : Obj, Below w.heap.size w (w.alloc o)) := fun o => (Below.refl _ _).alloc (Nat.le_refl _) _
  have HD : Hid (dig n = one (48 + n) ++ ⟨#[]⟩) := rfl
  go_enter Try.func159, Try.ntmps159
  go_wp2_with fail
  go_loop [0, 3] (fun q t => q = .int .i64 n ∧ t = .string ⟨#[]⟩) (fun _ _ => 0)
  case atStart => exact ⟨rfl, rfl⟩
  case round =>
    obtain ⟨rfl, rfl⟩ := hrel
    go_wp2_with fail
    go_ret
    exact ⟨ret_str HD.out.symm, HB.out _⟩
theorem idx_any (i : Int) (w : World) (h0 : -1 ≤ i) (h9 : i ≤ 9) :
    Calls Try.prog 161 #[.int .i64 i] w fun e w' => e = .returned (.string (ixT i)) ∧ Below w.heap.size w w' := by
  by_cases h1 : i = 0
  · have q := ieq_t h1
    have HD : Hid (ixT i = ⟨#[]⟩) := if_pos h1
    clear h1
    go_enter Try.func161, Try.ntmps161
    go_wp2_with fail
    go_ret
    exact ⟨ret_str HD.out.symm, Below.refl _ _⟩
  · by_cases h2 : i = -1
    · have q := ieq_f h1
      have q2 := ieq_t h2
      have HD : Hid (ixT i = ⟨#[42]⟩) := by unfold Hid ixT; rw [if_neg h1, if_pos h2]
      clear h1 h2
      go_enter Try.func161, Try.ntmps161
      go_wp2_with fail
      go_ret
      exact ⟨ret_str HD.out.symm, Below.refl _ _⟩
    · have q := ieq_f h1
      have q2 := ieq_f h2
      have HD : Hid (ixT i = dig i) := by unfold Hid ixT; rw [if_neg h1, if_neg h2]
      have h3 : 0 ≤ i := by omega
      clear h1 h2
      go_enter Try.func161, Try.ntmps161
      go_wp2_with fail
      refine (dec_any _ _ h3 h9).mono ?_
      rintro e w1 ⟨rfl, hb⟩
      go_wp2_with fail
      go_ret
      exact ⟨ret_str HD.out.symm, hb⟩
/-- The text of a type. -/
def tyT (l : List Da) (t : Ty) : ByteArray := if t.data = -1 then ⟨#[73]⟩ else (l.getD t.data.toNat default).name ++ ixT t.index
theorem tyT_int {l : List Da} {t : Ty} (h : t.data = -1) : tyT l t = ⟨#[73]⟩ := if_pos h
theorem tyT_data {l : List Da} {d : Nat} {i : Int} (hd : d < l.length) : tyT l ⟨d, i⟩ = l[d].name ++ ixT i := by
  have e : l.getD d default = l[d] := by simp [List.getD, List.getElem?_eq_getElem hd]
  unfold tyT
  rw [if_neg (by simp only; omega)]
  simp only [Int.toNat_natCast, e]
theorem type_int (A : Option Addr) (n cap : Nat) (i : Int) (w : World) :
    Calls Try.prog 158 #[.slice A n cap, .agg #[.int .i64 (-1), .int .i64 i]] w fun e w' => e = .returned (.string ⟨#[73]⟩) ∧ Below w.heap.size w w' := by
  have HB : Hid (∀ o : Obj, Below w.heap.size w (w.alloc o)) := fun o => (Below.refl _ _).alloc (Nat.le_refl _) _
  go_enter Try.func158, Try.ntmps158
  go_wp2_with fail
  go_ret
  exact ⟨rfl, HB.out _⟩
set_option maxHeartbeats 800000 in
theorem type_data (A : Option Addr) (l : List Da) (cap d : Nat) (i : Int) (w : World) (hr : RDas w w.heap.size A l) (hd : d < l.length) (hn : l[d].name.size ≤ 100) (h0 : -1 ≤ i) (h9 : i ≤ 9) :
    Calls Try.prog 158 #[.slice A l.length cap, .agg #[.int .i64 d, .int .i64 i]] w fun e w' => e = .returned (.string (l[d].name ++ ixT i)) ∧ Below w.heap.size w w' := by
  have hm := hr.1
  unfold maxLen at hm
  obtain ⟨b, off, rfl, hbB, A', cp, c0, c1, _, _⟩ := hr.2 d hd
  clear hr c1
  have q0 : ((d : Int) == -1) = false := ieq_f (by omega)
  have hdI : (d : Int) < (l.length : Int) := by omega
  have hd0 : (0 : Int) ≤ (d : Int) := Int.natCast_nonneg _
  have hxs := ixT_size i
  generalize hw0 : w.alloc (.cells #[.int .i64 d, .int .i64 i] 25) = w0
  have x0 : w0.cell? ⟨w.heap.size, 0, none⟩ = some (.int .i64 d) := by rw [← hw0]; simp [go_sem]
  have x1 : w0.cell? ⟨w.heap.size, 1, none⟩ = some (.int .i64 i) := by rw [← hw0]; simp [go_sem]
  have x2 : w0.cell? ⟨b, off + d * 2, none⟩ = some (.string l[d].name) := by rw [← hw0]; exact (World.cell?_alloc_lt _ _ _ hbB).trans c0
  have hb0 : Below w.heap.size w w0 := by rw [← hw0]; exact (Below.refl _ _).alloc (Nat.le_refl _) _
  have HW := Lib.hid hw0
  clear hw0 c0
  go_enter Try.func158, Try.ntmps158
  go_wp2_with fail
  rw [HW.out]
  have hadd : ∀ w : World, (Op.stringOp .add l[d].name (ixT i)).run Try.prog w = .ok (.string (l[d].name ++ ixT i)) w := fun w => run_string_add_sum w _ _ (by omega)
  go_region_held3 (fun w' => w'.cell? ⟨w.heap.size, 0, none⟩ = some (.int .i64 d) ∧ w'.cell? ⟨w.heap.size, 1, none⟩ = some (.int .i64 i) ∧ w'.cell? ⟨b, off + d * 2, none⟩ = some (.string l[d].name)) (first | exact ⟨x0, x1, x2⟩ | exact ⟨y0, y1, y2⟩ | go_keep) (first | (go_at_call 161; refine (idx_any _ _ h0 h9).mono ?_; rintro e w1 ⟨rfl, hb1⟩; have hb1' : Below w0.heap.size w0 w1 := ⟨hb1.os, hb1.tape, hb1.output, hb1.size, hb1.block⟩; have y0 := (hb1'.cell (p := ⟨w.heap.size, 0, none⟩) (Go.block_lt_of_cell x0)).trans x0; have y1 := (hb1'.cell (p := ⟨w.heap.size, 1, none⟩) (Go.block_lt_of_cell x1)).trans x1; have y2 := (hb1'.cell (p := ⟨b, off + d * 2, none⟩) (Go.block_lt_of_cell x2)).trans x2))
  have hbF := below_after hb0 hb1' hb0.size
  go_wp2_with fail
  go_ret
  exact ⟨rfl, hbF⟩
end Go.Proofs.Yteoopmogklpnoaa
/-
  The texts of constructors and worlds: the document's functions. No statement is proved here.
-/
namespace Go.Proofs.Yteoopmogklpnoaa
open Go.RowKit Go.Deep
set_option maxRecDepth 100000
set_option linter.unusedVariables false
/-- A type that can be that of an argument; the names are not long. -/
def ArgIn (n : Nat) (t : Ty) : Prop := (t.data = -1 ∨ (0 ≤ t.data ∧ t.data < n)) ∧ -1 ≤ t.index ∧ t.index ≤ 3
def Short (l : List Da) : Prop := ∀ d (h : d < l.length), l[d].name.size ≤ 100
def CtIn (n : Nat) (c : Ct) : Prop := c.name.size ≤ 100 ∧ c.args.length ≤ 3 ∧ 0 ≤ c.index ∧ c.index ≤ 3 ∧ ∀ a ∈ c.args, ArgIn n a
theorem tyT_size {l : List Da} {t : Ty} (hs : Short l) (ht : ArgIn l.length t) : (tyT l t).size ≤ 101 := by
  obtain ⟨d, i⟩ := t
  rcases ht.1 with h | ⟨h0, h1⟩
  · rw [tyT_int h]; decide
  · simp only at h0 h1
    obtain ⟨k, rfl⟩ : ∃ k : Nat, d = k := ⟨d.toNat, by omega⟩
    rw [tyT_data (by omega : k < l.length), ByteArray.size_append]
    have := hs k (by omega)
    have := ixT_size i
    omega
theorem type_any (A : Option Addr) (l : List Da) (cap : Nat) (t : Ty) (s : ByteArray) (w : World) (hr : RDas w w.heap.size A l) (hs : Short l) (ht : ArgIn l.length t) (he : tyT l t = s) :
    Calls Try.prog 158 #[.slice A l.length cap, .agg #[.int .i64 t.data, .int .i64 t.index]] w fun e w' => e = .returned (.string s) ∧ Below w.heap.size w w' := by
  subst he
  obtain ⟨d, i⟩ := t
  by_cases h : d = -1
  · subst h
    rw [tyT_int rfl]
    exact type_int A l.length cap i w
  · have h1 := ht.1.resolve_left h
    simp only at h1
    obtain ⟨k, rfl⟩ : ∃ k : Nat, d = k := ⟨d.toNat, by omega⟩
    rw [tyT_data (by omega : k < l.length)]
    exact type_data A l cap k i w hr (by omega) (hs k (by omega)) ht.2.1 (by have := ht.2.2; simp only at this; omega)
def argAcc (l : List Da) (c : Ct) : Nat → ByteArray
  | 0 => c.name
  | k + 1 => (argAcc l c k ++ (if k = 0 then ⟨#[40]⟩ else ⟨#[44]⟩)) ++ tyT l (c.args.getD k default)
/-- The text of a constructor. -/
def ctT2 (l : List Da) (c : Ct) : ByteArray := if 0 < c.args.length then argAcc l c c.args.length ++ ⟨#[41]⟩ else argAcc l c c.args.length
def ctT (l : List Da) (c : Ct) : ByteArray := if 0 < c.index then (ctT2 l c ++ ⟨#[58]⟩) ++ dig c.index else ctT2 l c
theorem argAcc_at {l : List Da} {c : Ct} {k : Nat} (h : k < c.args.length) : argAcc l c (k + 1) = (argAcc l c k ++ (if k = 0 then ⟨#[40]⟩ else ⟨#[44]⟩)) ++ tyT l c.args[k] := by
  have e : c.args.getD k default = c.args[k] := by simp [List.getD, List.getElem?_eq_getElem h]
  show (argAcc l c k ++ (if k = 0 then ⟨#[40]⟩ else ⟨#[44]⟩)) ++ tyT l (c.args.getD k default) = _
  rw [e]
theorem argAcc_size {l : List Da} {c : Ct} (hs : Short l) (hc : CtIn l.length c) : ∀ k, k ≤ c.args.length → (argAcc l c k).size ≤ 100 + 102 * k
  | 0, _ => hc.1
  | k + 1, hk => by
    have h1 := argAcc_size hs hc k (by omega)
    have h2 := tyT_size hs (hc.2.2.2.2 _ (List.getElem_mem (by omega : k < c.args.length)))
    rw [argAcc_at (by omega), ByteArray.size_append, ByteArray.size_append]
    have h3 : (if k = 0 then (⟨#[40]⟩ : ByteArray) else ⟨#[44]⟩).size = 1 := by split <;> rfl
    omega
theorem ctT2_size {l : List Da} {c : Ct} (hs : Short l) (hc : CtIn l.length c) : (ctT2 l c).size ≤ 500 := by
  have h1 := argAcc_size hs hc c.args.length (Nat.le_refl _)
  have h2 := hc.2.1
  unfold ctT2
  split
  · rw [ByteArray.size_append]; have : (ByteArray.mk #[41]).size = 1 := rfl; omega
  · omega
theorem ctT_size {l : List Da} {c : Ct} (hs : Short l) (hc : CtIn l.length c) : (ctT l c).size ≤ 510 := by
  have h1 := ctT2_size hs hc
  unfold ctT
  split
  · rw [ByteArray.size_append, ByteArray.size_append, dig_size]; have : (ByteArray.mk #[58]).size = 1 := rfl; omega
  · omega
set_option maxHeartbeats 1600000 in
theorem ctorText_any (A D : Option Addr) (l : List Da) (c : Ct) (cap ep : Nat) (w : World) (hr : RDas w w.heap.size A l) (ha : RTys w w.heap.size D c.args) (hs : Short l) (hc : CtIn l.length c) :
    Calls Try.prog 152 #[.slice A l.length cap, .agg #[.string c.name, .slice D c.args.length ep, .int .i64 c.index]] w fun e w' => e = .returned (.string (ctT l c)) ∧ Below w.heap.size w w' := by
  have Hr := Lib.hid hr
  have HA := Lib.hid ha
  have HS := Lib.hid hs
  have HC := Lib.hid hc
  have h3 := hc.2.1
  have hi0 := hc.2.2.1
  have hi3 := hc.2.2.2.1
  have hT2 := ctT2_size hs hc
  have HZ : Hid (∀ k, k ≤ c.args.length → (argAcc l c k).size ≤ 100 + 102 * k) := argAcc_size hs hc
  clear hr ha hs hc
  generalize hw0 : w.alloc (.cells #[.string c.name, .slice D c.args.length ep, .int .i64 c.index] 148) = w0
  have x0 : w0.cell? ⟨w.heap.size, 0, none⟩ = some (.string c.name) := by rw [← hw0]; simp [go_sem]
  have HX : Hid (Box3 w0 w.heap.size c.name (.slice D c.args.length ep) c.index) := by rw [← hw0]; exact heap_alloc_new w _
  have hb0 : Below w.heap.size w w0 := by rw [← hw0]; exact (Below.refl _ _).alloc (Nat.le_refl _) _
  have HW := Lib.hid hw0
  clear hw0
  go_enter Try.func152, Try.ntmps152
  go_wp2_with fail
  rw [HW.out]
  clear HW x0
  go_loopw [5, 6] (fun t i wr => ∃ k : Nat, k ≤ c.args.length ∧ i = .int .i64 k ∧ t = .string (argAcc l c k) ∧ Below w0.heap.size w0 wr) (fun _ i _ => c.args.length - (intOf i).toNat)
  case atStart => exact ⟨0, by omega, rfl, rfl, Below.refl _ _⟩
  case round =>
    obtain ⟨k, hk, rfl, rfl, hb⟩ := hrel
    have hbx := HX.out.at_ hb
    have b0 := hbx.c0
    have b1 := hbx.c1
    have b2 := hbx.c2
    have hbw : Below w.heap.size w wr := below_after hb0 hb hb0.size
    have hz := HZ.out k hk
    by_cases hlt : k < c.args.length
    · have hkI : (k : Int) < (c.args.length : Int) := by omega
      obtain ⟨g, o, rfl, hgB, y0, y1⟩ := (HA.out.below hbw (Nat.le_refl _)).2 k hlt
      have HIN := Lib.hid (HC.out.2.2.2.2 _ (List.getElem_mem hlt))
      have HAT := Lib.hid (argAcc_at (l := l) hlt)
      have hts := tyT_size HS.out HIN.out
      have HRr : Hid (RDas wr wr.heap.size A l) := Hr.out.keep (fun p hp => hbw.cell hp) hbw.size
      generalize hu : tyT l c.args[k] = u at hts HAT
      have HU := Lib.hid hu
      generalize argAcc l c k = a at hz HAT
      clear hu
      by_cases h0 : k = 0
      · have q := ieq_t (show (k : Int) = 0 by omega)
        rw [if_pos h0] at HAT
        clear h0
        go_wp2_with fail
        refine (type_any _ l _ _ u _ HRr.out HS.out HIN.out HU.out).mono ?_
        rintro e w1 ⟨rfl, hb1⟩
        have hb2 := hb.trans (hb1.mono hb.size)
        go_wp2_with fail
        go_roundw
        case rel => exact ⟨k + 1, by omega, by go_num, by rw [HAT.out], hb2⟩
        case measure => simp [intOf]; omega
      · have q := ieq_f (show ¬ (k : Int) = 0 by omega)
        rw [if_neg h0] at HAT
        clear h0
        go_wp2_with fail
        refine (type_any _ l _ _ u _ HRr.out HS.out HIN.out HU.out).mono ?_
        rintro e w1 ⟨rfl, hb1⟩
        have hb2 := hb.trans (hb1.mono hb.size)
        go_wp2_with fail
        go_roundw
        case rel => exact ⟨k + 1, by omega, by go_num, by rw [HAT.out], hb2⟩
        case measure => simp [intOf]; omega
    · have he : k = c.args.length := by omega
      have hkI : (c.args.length : Int) ≤ (k : Int) := by omega
      by_cases hp : 0 < c.args.length
      · have hpI : (0 : Int) < (c.args.length : Int) := by omega
        have HT2 : Hid (ctT2 l c = argAcc l c k ++ ⟨#[41]⟩) := by unfold Hid ctT2; rw [if_pos hp, he]
        generalize argAcc l c k = a at hz HT2
        by_cases hx : 0 < c.index
        · have HT : Hid (ctT l c = (ctT2 l c ++ ⟨#[58]⟩) ++ dig c.index) := if_pos hx
          have hds := dig_size c.index
          generalize hdd : dig c.index = dd at hds HT
          have HDD := Lib.hid hdd
          clear hdd he
          go_wp2_with fail
          refine (dec_any _ _ hi0 (by omega)).mono ?_
          rw [HDD.out]
          rintro e w1 ⟨rfl, hb1⟩
          have hb2 := below_after hbw hb1 hbw.size
          go_wp2_with fail
          go_ret
          exact ⟨ret_str (by rw [HT.out, HT2.out]), hb2⟩
        · have HT : Hid (ctT l c = ctT2 l c) := if_neg hx
          have hxI : c.index ≤ 0 := by omega
          clear he
          go_wp2_with fail
          go_ret
          exact ⟨ret_str (by rw [HT.out, HT2.out]), hbw⟩
      · have hpI : (c.args.length : Int) ≤ 0 := by omega
        have HT2 : Hid (ctT2 l c = argAcc l c k) := by unfold Hid ctT2; rw [if_neg hp, he]
        generalize argAcc l c k = a at hz HT2
        by_cases hx : 0 < c.index
        · have HT : Hid (ctT l c = (ctT2 l c ++ ⟨#[58]⟩) ++ dig c.index) := if_pos hx
          have hds := dig_size c.index
          generalize hdd : dig c.index = dd at hds HT
          have HDD := Lib.hid hdd
          clear hdd he
          go_wp2_with fail
          refine (dec_any _ _ hi0 (by omega)).mono ?_
          rw [HDD.out]
          rintro e w1 ⟨rfl, hb1⟩
          have hb2 := below_after hbw hb1 hbw.size
          go_wp2_with fail
          go_ret
          exact ⟨ret_str (by rw [HT.out, HT2.out]), hb2⟩
        · have HT : Hid (ctT l c = ctT2 l c) := if_neg hx
          have hxI : c.index ≤ 0 := by omega
          clear he
          go_wp2_with fail
          go_ret
          exact ⟨ret_str (by rw [HT.out, HT2.out]), hbw⟩
end Go.Proofs.Yteoopmogklpnoaa
