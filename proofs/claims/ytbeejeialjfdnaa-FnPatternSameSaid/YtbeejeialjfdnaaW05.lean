/-
  The texts of types and constructors: the document's functions. No statement is proved here.
-/
import Derived.Test.YtbeejeialjfdnaaW04
import Derived.Test.YtbeejeialjfdnaaW03
import Derived.Test.YtbeejeialjfdnaaW00
import Derived.Test.YtbeejeialjfdnaaW02
namespace Go.Proofs.Ytbeejeialjfdnaa
open Go.RowKit Go.Deep
set_option maxRecDepth 100000
set_option linter.unusedVariables false
theorem ret_str {a b : ByteArray} (h : a = b) : Ending.returned (.string a) = .returned (.string b) := by rw [h]
/-- A digit. -/
def dig (n : Int) : ByteArray := one (48 + n) ++ ⟨#[]⟩
theorem dig_size (n : Int) : (dig n).size = 1 := rfl
def ixT (i : Int) : ByteArray := if i = 0 then ⟨#[]⟩ else if i = -1 then ⟨#[42]⟩ else dig i
theorem ixT_size (i : Int) : (ixT i).size ≤ 1 := by
  unfold ixT
  split
  · exact Nat.zero_le _
  · split
    · exact Nat.le_refl _
    · rw [dig_size]; exact Nat.le_refl _
theorem dec_any (n : Int) (w : World) (h0 : 0 ≤ n) (h9 : n ≤ 9) :
    Calls Try.prog 159 #[.int .i64 n] w fun e w' => e = .returned (.string (dig n)) ∧ Below w.heap.size w w' := by
  have hcv := conv_one w (48 + n)
  have hos := one_size (48 + n)
  have HB : Hid (∀ o : Obj, Below w.heap.size w (w.alloc o)) := fun o => (Below.refl _ _).alloc (Nat.le_refl _) _
  have HD : Hid (dig n = one (48 + n) ++ ⟨#[]⟩) := rfl
  go_enter Try.func159, Try.ntmps159
  go_wp2_with fail
  go_loop [0, 3] (fun q t => q = .int .i64 n ∧ t = .string ⟨#[]⟩) (fun _ _ => 0)
  case atStart => exact ⟨rfl, rfl⟩
  case round =>
    obtain ⟨rfl, rfl⟩ := hrel
    go_wp2_with fail
    go_ret
    exact ⟨ret_str HD.out.symm, HB.out _⟩
theorem idx_any (i : Int) (w : World) (h0 : -1 ≤ i) (h9 : i ≤ 9) :
    Calls Try.prog 161 #[.int .i64 i] w fun e w' => e = .returned (.string (ixT i)) ∧ Below w.heap.size w w' := by
  by_cases h1 : i = 0
  · have q := ieq_t h1
    have HD : Hid (ixT i = ⟨#[]⟩) := if_pos h1
    clear h1
    go_enter Try.func161, Try.ntmps161
    go_wp2_with fail
    go_ret
    exact ⟨ret_str HD.out.symm, Below.refl _ _⟩
  · by_cases h2 : i = -1
    · have q := ieq_f h1
      have q2 := ieq_t h2
      have HD : Hid (ixT i = ⟨#[42]⟩) := by unfold Hid ixT; rw [if_neg h1, if_pos h2]
      clear h1 h2
      go_enter Try.func161, Try.ntmps161
      go_wp2_with fail
      go_ret
      exact ⟨ret_str HD.out.symm, Below.refl _ _⟩
    · have q := ieq_f h1
      have q2 := ieq_f h2
      have HD : Hid (ixT i = dig i) := by unfold Hid ixT; rw [if_neg h1, if_neg h2]
      have h3 : 0 ≤ i := by omega
      clear h1 h2
      go_enter Try.func161, Try.ntmps161
      go_wp2_with fail
      refine (dec_any _ _ h3 h9).mono ?_
      rintro e w1 ⟨rfl, hb⟩
      go_wp2_with fail
      go_ret
      exact ⟨ret_str HD.out.symm, hb⟩
/-- The text of a type. -/
def tyT (l : List Da) (t : Ty) : ByteArray := if t.data = -1 then ⟨#[73]⟩ else (l.getD t.data.toNat default).name ++ ixT t.index
theorem tyT_int {l : List Da} {t : Ty} (h : t.data = -1) : tyT l t = ⟨#[73]⟩ := if_pos h
theorem tyT_data {l : List Da} {d : Nat} {i : Int} (hd : d < l.length) : tyT l ⟨d, i⟩ = l[d].name ++ ixT i := by
  have e : l.getD d default = l[d] := by simp [List.getD, List.getElem?_eq_getElem hd]
  unfold tyT
  rw [if_neg (by simp only; omega)]
  simp only [Int.toNat_natCast, e]
theorem type_int (A : Option Addr) (n cap : Nat) (i : Int) (w : World) :
    Calls Try.prog 158 #[.slice A n cap, .agg #[.int .i64 (-1), .int .i64 i]] w fun e w' => e = .returned (.string ⟨#[73]⟩) ∧ Below w.heap.size w w' := by
  have HB : Hid (∀ o : Obj, Below w.heap.size w (w.alloc o)) := fun o => (Below.refl _ _).alloc (Nat.le_refl _) _
  go_enter Try.func158, Try.ntmps158
  go_wp2_with fail
  go_ret
  exact ⟨rfl, HB.out _⟩
set_option maxHeartbeats 800000 in
theorem type_data (A : Option Addr) (l : List Da) (cap d : Nat) (i : Int) (w : World) (hr : RDas w w.heap.size A l) (hd : d < l.length) (hn : l[d].name.size ≤ 100) (h0 : -1 ≤ i) (h9 : i ≤ 9) :
    Calls Try.prog 158 #[.slice A l.length cap, .agg #[.int .i64 d, .int .i64 i]] w fun e w' => e = .returned (.string (l[d].name ++ ixT i)) ∧ Below w.heap.size w w' := by
  have hm := hr.1
  unfold maxLen at hm
  obtain ⟨b, off, rfl, hbB, A', cp, c0, c1, _, _⟩ := hr.2 d hd
  clear hr c1
  have q0 : ((d : Int) == -1) = false := ieq_f (by omega)
  have hdI : (d : Int) < (l.length : Int) := by omega
  have hd0 : (0 : Int) ≤ (d : Int) := Int.natCast_nonneg _
  have hxs := ixT_size i
  generalize hw0 : w.alloc (.cells #[.int .i64 d, .int .i64 i] 25) = w0
  have x0 : w0.cell? ⟨w.heap.size, 0, none⟩ = some (.int .i64 d) := by rw [← hw0]; simp [go_sem]
  have x1 : w0.cell? ⟨w.heap.size, 1, none⟩ = some (.int .i64 i) := by rw [← hw0]; simp [go_sem]
  have x2 : w0.cell? ⟨b, off + d * 2, none⟩ = some (.string l[d].name) := by rw [← hw0]; exact (World.cell?_alloc_lt _ _ _ hbB).trans c0
  have hb0 : Below w.heap.size w w0 := by rw [← hw0]; exact (Below.refl _ _).alloc (Nat.le_refl _) _
  have HW := Lib.hid hw0
  clear hw0 c0
  go_enter Try.func158, Try.ntmps158
  go_wp2_with fail
  rw [HW.out]
  have hadd : ∀ w : World, (Op.stringOp .add l[d].name (ixT i)).run Try.prog w = .ok (.string (l[d].name ++ ixT i)) w := fun w => run_string_add_sum w _ _ (by omega)
  go_region_held3 (fun w' => w'.cell? ⟨w.heap.size, 0, none⟩ = some (.int .i64 d) ∧ w'.cell? ⟨w.heap.size, 1, none⟩ = some (.int .i64 i) ∧ w'.cell? ⟨b, off + d * 2, none⟩ = some (.string l[d].name)) (first | exact ⟨x0, x1, x2⟩ | exact ⟨y0, y1, y2⟩ | go_keep) (first | (go_at_call 161; refine (idx_any _ _ h0 h9).mono ?_; rintro e w1 ⟨rfl, hb1⟩; have hb1' : Below w0.heap.size w0 w1 := ⟨hb1.os, hb1.tape, hb1.output, hb1.size, hb1.block⟩; have y0 := (hb1'.cell (p := ⟨w.heap.size, 0, none⟩) (Go.block_lt_of_cell x0)).trans x0; have y1 := (hb1'.cell (p := ⟨w.heap.size, 1, none⟩) (Go.block_lt_of_cell x1)).trans x1; have y2 := (hb1'.cell (p := ⟨b, off + d * 2, none⟩) (Go.block_lt_of_cell x2)).trans x2))
  have hbF := below_after hb0 hb1' hb0.size
  go_wp2_with fail
  go_ret
  exact ⟨rfl, hbF⟩
end Go.Proofs.Ytbeejeialjfdnaa
/-
  The texts of constructors and worlds: the document's functions. No statement is proved here.
-/
namespace Go.Proofs.Ytbeejeialjfdnaa
open Go.RowKit Go.Deep
set_option maxRecDepth 100000
set_option linter.unusedVariables false
/-- A type that can be that of an argument; the names are not long. -/
def ArgIn (n : Nat) (t : Ty) : Prop := (t.data = -1 ∨ (0 ≤ t.data ∧ t.data < n)) ∧ -1 ≤ t.index ∧ t.index ≤ 3
def Short (l : List Da) : Prop := ∀ d (h : d < l.length), l[d].name.size ≤ 100
def CtIn (n : Nat) (c : Ct) : Prop := c.name.size ≤ 100 ∧ c.args.length ≤ 3 ∧ 0 ≤ c.index ∧ c.index ≤ 3 ∧ ∀ a ∈ c.args, ArgIn n a
theorem tyT_size {l : List Da} {t : Ty} (hs : Short l) (ht : ArgIn l.length t) : (tyT l t).size ≤ 101 := by
  obtain ⟨d, i⟩ := t
  rcases ht.1 with h | ⟨h0, h1⟩
  · rw [tyT_int h]; decide
  · simp only at h0 h1
    obtain ⟨k, rfl⟩ : ∃ k : Nat, d = k := ⟨d.toNat, by omega⟩
    rw [tyT_data (by omega : k < l.length), ByteArray.size_append]
    have := hs k (by omega)
    have := ixT_size i
    omega
theorem type_any (A : Option Addr) (l : List Da) (cap : Nat) (t : Ty) (s : ByteArray) (w : World) (hr : RDas w w.heap.size A l) (hs : Short l) (ht : ArgIn l.length t) (he : tyT l t = s) :
    Calls Try.prog 158 #[.slice A l.length cap, .agg #[.int .i64 t.data, .int .i64 t.index]] w fun e w' => e = .returned (.string s) ∧ Below w.heap.size w w' := by
  subst he
  obtain ⟨d, i⟩ := t
  by_cases h : d = -1
  · subst h
    rw [tyT_int rfl]
    exact type_int A l.length cap i w
  · have h1 := ht.1.resolve_left h
    simp only at h1
    obtain ⟨k, rfl⟩ : ∃ k : Nat, d = k := ⟨d.toNat, by omega⟩
    rw [tyT_data (by omega : k < l.length)]
    exact type_data A l cap k i w hr (by omega) (hs k (by omega)) ht.2.1 (by have := ht.2.2; simp only at this; omega)
def argAcc (l : List Da) (c : Ct) : Nat → ByteArray
  | 0 => c.name
  | k + 1 => (argAcc l c k ++ (if k = 0 then ⟨#[40]⟩ else ⟨#[44]⟩)) ++ tyT l (c.args.getD k default)
/-- The text of a constructor. -/
def ctT2 (l : List Da) (c : Ct) : ByteArray := if 0 < c.args.length then argAcc l c c.args.length ++ ⟨#[41]⟩ else argAcc l c c.args.length
def ctT (l : List Da) (c : Ct) : ByteArray := if 0 < c.index then (ctT2 l c ++ ⟨#[58]⟩) ++ dig c.index else ctT2 l c
theorem argAcc_at {l : List Da} {c : Ct} {k : Nat} (h : k < c.args.length) : argAcc l c (k + 1) = (argAcc l c k ++ (if k = 0 then ⟨#[40]⟩ else ⟨#[44]⟩)) ++ tyT l c.args[k] := by
  have e : c.args.getD k default = c.args[k] := by simp [List.getD, List.getElem?_eq_getElem h]
  show (argAcc l c k ++ (if k = 0 then ⟨#[40]⟩ else ⟨#[44]⟩)) ++ tyT l (c.args.getD k default) = _
  rw [e]
theorem argAcc_size {l : List Da} {c : Ct} (hs : Short l) (hc : CtIn l.length c) : ∀ k, k ≤ c.args.length → (argAcc l c k).size ≤ 100 + 102 * k
  | 0, _ => hc.1
  | k + 1, hk => by
    have h1 := argAcc_size hs hc k (by omega)
    have h2 := tyT_size hs (hc.2.2.2.2 _ (List.getElem_mem (by omega : k < c.args.length)))
    rw [argAcc_at (by omega), ByteArray.size_append, ByteArray.size_append]
    have h3 : (if k = 0 then (⟨#[40]⟩ : ByteArray) else ⟨#[44]⟩).size = 1 := by split <;> rfl
    omega
theorem ctT2_size {l : List Da} {c : Ct} (hs : Short l) (hc : CtIn l.length c) : (ctT2 l c).size ≤ 500 := by
  have h1 := argAcc_size hs hc c.args.length (Nat.le_refl _)
  have h2 := hc.2.1
  unfold ctT2
  split
  · rw [ByteArray.size_append]; have : (ByteArray.mk #[41]).size = 1 := rfl; omega
  · omega
theorem ctT_size {l : List Da} {c : Ct} (hs : Short l) (hc : CtIn l.length c) : (ctT l c).size ≤ 510 := by
  have h1 := ctT2_size hs hc
  unfold ctT
  split
  · rw [ByteArray.size_append, ByteArray.size_append, dig_size]; have : (ByteArray.mk #[58]).size = 1 := rfl; omega
  · omega
set_option maxHeartbeats 1600000 in
theorem ctorText_any (A D : Option Addr) (l : List Da) (c : Ct) (cap ep : Nat) (w : World) (hr : RDas w w.heap.size A l) (ha : RTys w w.heap.size D c.args) (hs : Short l) (hc : CtIn l.length c) :
    Calls Try.prog 152 #[.slice A l.length cap, .agg #[.string c.name, .slice D c.args.length ep, .int .i64 c.index]] w fun e w' => e = .returned (.string (ctT l c)) ∧ Below w.heap.size w w' := by
  have Hr := Lib.hid hr
  have HA := Lib.hid ha
  have HS := Lib.hid hs
  have HC := Lib.hid hc
  have h3 := hc.2.1
  have hi0 := hc.2.2.1
  have hi3 := hc.2.2.2.1
  have hT2 := ctT2_size hs hc
  have HZ : Hid (∀ k, k ≤ c.args.length → (argAcc l c k).size ≤ 100 + 102 * k) := argAcc_size hs hc
  clear hr ha hs hc
  generalize hw0 : w.alloc (.cells #[.string c.name, .slice D c.args.length ep, .int .i64 c.index] 148) = w0
  have x0 : w0.cell? ⟨w.heap.size, 0, none⟩ = some (.string c.name) := by rw [← hw0]; simp [go_sem]
  have HX : Hid (Box3 w0 w.heap.size c.name (.slice D c.args.length ep) c.index) := by rw [← hw0]; exact heap_alloc_new w _
  have hb0 : Below w.heap.size w w0 := by rw [← hw0]; exact (Below.refl _ _).alloc (Nat.le_refl _) _
  have HW := Lib.hid hw0
  clear hw0
  go_enter Try.func152, Try.ntmps152
  go_wp2_with fail
  rw [HW.out]
  clear HW x0
  go_loopw [5, 6] (fun t i wr => ∃ k : Nat, k ≤ c.args.length ∧ i = .int .i64 k ∧ t = .string (argAcc l c k) ∧ Below w0.heap.size w0 wr) (fun _ i _ => c.args.length - (intOf i).toNat)
  case atStart => exact ⟨0, by omega, rfl, rfl, Below.refl _ _⟩
  case round =>
    obtain ⟨k, hk, rfl, rfl, hb⟩ := hrel
    have hbx := HX.out.at_ hb
    have b0 := hbx.c0
    have b1 := hbx.c1
    have b2 := hbx.c2
    have hbw : Below w.heap.size w wr := below_after hb0 hb hb0.size
    have hz := HZ.out k hk
    by_cases hlt : k < c.args.length
    · have hkI : (k : Int) < (c.args.length : Int) := by omega
      obtain ⟨g, o, rfl, hgB, y0, y1⟩ := (HA.out.below hbw (Nat.le_refl _)).2 k hlt
      have HIN := Lib.hid (HC.out.2.2.2.2 _ (List.getElem_mem hlt))
      have HAT := Lib.hid (argAcc_at (l := l) hlt)
      have hts := tyT_size HS.out HIN.out
      have HRr : Hid (RDas wr wr.heap.size A l) := Hr.out.keep (fun p hp => hbw.cell hp) hbw.size
      generalize hu : tyT l c.args[k] = u at hts HAT
      have HU := Lib.hid hu
      generalize argAcc l c k = a at hz HAT
      clear hu
      by_cases h0 : k = 0
      · have q := ieq_t (show (k : Int) = 0 by omega)
        rw [if_pos h0] at HAT
        clear h0
        go_wp2_with fail
        refine (type_any _ l _ _ u _ HRr.out HS.out HIN.out HU.out).mono ?_
        rintro e w1 ⟨rfl, hb1⟩
        have hb2 := hb.trans (hb1.mono hb.size)
        go_wp2_with fail
        go_roundw
        case rel => exact ⟨k + 1, by omega, by go_num, by rw [HAT.out], hb2⟩
        case measure => simp [intOf]; omega
      · have q := ieq_f (show ¬ (k : Int) = 0 by omega)
        rw [if_neg h0] at HAT
        clear h0
        go_wp2_with fail
        refine (type_any _ l _ _ u _ HRr.out HS.out HIN.out HU.out).mono ?_
        rintro e w1 ⟨rfl, hb1⟩
        have hb2 := hb.trans (hb1.mono hb.size)
        go_wp2_with fail
        go_roundw
        case rel => exact ⟨k + 1, by omega, by go_num, by rw [HAT.out], hb2⟩
        case measure => simp [intOf]; omega
    · have he : k = c.args.length := by omega
      have hkI : (c.args.length : Int) ≤ (k : Int) := by omega
      by_cases hp : 0 < c.args.length
      · have hpI : (0 : Int) < (c.args.length : Int) := by omega
        have HT2 : Hid (ctT2 l c = argAcc l c k ++ ⟨#[41]⟩) := by unfold Hid ctT2; rw [if_pos hp, he]
        generalize argAcc l c k = a at hz HT2
        by_cases hx : 0 < c.index
        · have HT : Hid (ctT l c = (ctT2 l c ++ ⟨#[58]⟩) ++ dig c.index) := if_pos hx
          have hds := dig_size c.index
          generalize hdd : dig c.index = dd at hds HT
          have HDD := Lib.hid hdd
          clear hdd he
          go_wp2_with fail
          refine (dec_any _ _ hi0 (by omega)).mono ?_
          rw [HDD.out]
          rintro e w1 ⟨rfl, hb1⟩
          have hb2 := below_after hbw hb1 hbw.size
          go_wp2_with fail
          go_ret
          exact ⟨ret_str (by rw [HT.out, HT2.out]), hb2⟩
        · have HT : Hid (ctT l c = ctT2 l c) := if_neg hx
          have hxI : c.index ≤ 0 := by omega
          clear he
          go_wp2_with fail
          go_ret
          exact ⟨ret_str (by rw [HT.out, HT2.out]), hbw⟩
      · have hpI : (c.args.length : Int) ≤ 0 := by omega
        have HT2 : Hid (ctT2 l c = argAcc l c k) := by unfold Hid ctT2; rw [if_neg hp, he]
        generalize argAcc l c k = a at hz HT2
        by_cases hx : 0 < c.index
        · have HT : Hid (ctT l c = (ctT2 l c ++ ⟨#[58]⟩) ++ dig c.index) := if_pos hx
          have hds := dig_size c.index
          generalize hdd : dig c.index = dd at hds HT
          have HDD := Lib.hid hdd
          clear hdd he
          go_wp2_with fail
          refine (dec_any _ _ hi0 (by omega)).mono ?_
          rw [HDD.out]
          rintro e w1 ⟨rfl, hb1⟩
          have hb2 := below_after hbw hb1 hbw.size
          go_wp2_with fail
          go_ret
          exact ⟨ret_str (by rw [HT.out, HT2.out]), hb2⟩
        · have HT : Hid (ctT l c = ctT2 l c) := if_neg hx
          have hxI : c.index ≤ 0 := by omega
          clear he
          go_wp2_with fail
          go_ret
          exact ⟨ret_str (by rw [HT.out, HT2.out]), hbw⟩
end Go.Proofs.Ytbeejeialjfdnaa
/-
  The text of a world: the document's function. No statement is proved here.
-/
namespace Go.Proofs.Ytbeejeialjfdnaa
open Go.RowKit Go.Deep
set_option maxRecDepth 100000
set_option linter.unusedVariables false
theorem name_five {s : ByteArray} (h : nameB s = true) : s.size ≤ 5 := by
  by_cases h5 : s.size ≤ 5
  · exact h5
  · have := name_long (s := s) (by omega); rw [h] at this; cases this
theorem ct_in {n : Nat} {c : Ct} (h : ctorB n c = true) : CtIn n c := by
  obtain ⟨h1, h2⟩ := ctor_parts h
  have hn : nameB c.name = true ∧ c.args.length ≤ 3 := by
    unfold ctorB at h
    simp only [Bool.and_eq_true, decide_eq_true_eq] at h
    exact ⟨h.1, h.2.1⟩
  have := name_five hn.1
  refine ⟨by omega, hn.2, h1.1, h1.2, fun a ha => ?_⟩
  have hB := h2 a ha
  by_cases hb : a.data = -1
  · rw [argB_int hb] at hB
    have : a.index = 0 := of_decide_eq_true hB
    exact ⟨.inl hb, by omega, by omega⟩
  · rw [argB_data hb] at hB
    have := of_decide_eq_true hB
    exact ⟨.inr ⟨this.1, this.2.1⟩, this.2.2.1, this.2.2.2⟩
theorem world_ct_in {l : List Da} (h : WorldOK l) {d m : Nat} (hd : d < l.length) (hm : m < l[d].ctors.length) : CtIn l.length l[d].ctors[m] := ct_in (world_ctor h hd hm)
theorem world_short {l : List Da} (h : WorldOK l) : Short l := fun d hd => by
  have h1 := h.2.1 d hd hd
  unfold dataB dnameB at h1
  simp only [Bool.and_eq_true, decide_eq_true_eq] at h1
  omega
theorem world_four {l : List Da} (h : WorldOK l) {d : Nat} (hd : d < l.length) : l[d].ctors.length ≤ 4 := (data_len4 (h.2.1 d hd hd)).2
def ctsAcc (l : List Da) (base : ByteArray) (cs : List Ct) : Nat → ByteArray
  | 0 => base
  | k + 1 => (if k = 0 then ctsAcc l base cs k else ctsAcc l base cs k ++ ⟨#[124]⟩) ++ ctT l (cs.getD k default)
def headT (base : ByteArray) (d : Da) (k : Nat) : ByteArray := ((if k = 0 then base else base ++ ⟨#[59]⟩) ++ d.name) ++ ⟨#[61]⟩
def wAcc (l : List Da) : Nat → ByteArray
  | 0 => ⟨#[]⟩
  | k + 1 => ctsAcc l (headT (wAcc l k) (l.getD k default) k) (l.getD k default).ctors (l.getD k default).ctors.length
/-- The text of a world. -/
def wT (l : List Da) : ByteArray := wAcc l l.length
theorem ctsAcc_at {l : List Da} {base : ByteArray} {cs : List Ct} {k : Nat} (h : k < cs.length) : ctsAcc l base cs (k + 1) = (if k = 0 then ctsAcc l base cs k else ctsAcc l base cs k ++ ⟨#[124]⟩) ++ ctT l cs[k] := by
  have e : cs.getD k default = cs[k] := by simp [List.getD, List.getElem?_eq_getElem h]
  show (if k = 0 then ctsAcc l base cs k else ctsAcc l base cs k ++ ⟨#[124]⟩) ++ ctT l (cs.getD k default) = _
  rw [e]
theorem wAcc_at {l : List Da} {k : Nat} (h : k < l.length) : wAcc l (k + 1) = ctsAcc l (headT (wAcc l k) l[k] k) l[k].ctors l[k].ctors.length := by
  have e : l.getD k default = l[k] := by simp [List.getD, List.getElem?_eq_getElem h]
  show ctsAcc l (headT (wAcc l k) (l.getD k default) k) (l.getD k default).ctors (l.getD k default).ctors.length = _
  rw [e]
theorem ctsAcc_size {l : List Da} {base : ByteArray} {cs : List Ct} (hs : Short l) (hc : ∀ c ∈ cs, CtIn l.length c) : ∀ k, k ≤ cs.length → (ctsAcc l base cs k).size ≤ base.size + 511 * k
  | 0, _ => Nat.le_refl _
  | k + 1, hk => by
    have h1 := ctsAcc_size hs hc (base := base) k (by omega)
    have h2 := ctT_size hs (hc _ (List.getElem_mem (by omega : k < cs.length)))
    rw [ctsAcc_at (by omega), ByteArray.size_append]
    have h3 : (ByteArray.mk #[124]).size = 1 := rfl
    split
    · omega
    · rw [ByteArray.size_append]; omega
theorem headT_size (base : ByteArray) (d : Da) (k : Nat) : (headT base d k).size ≤ base.size + d.name.size + 2 := by
  have h3 : (ByteArray.mk #[59]).size = 1 := rfl
  have h4 : (ByteArray.mk #[61]).size = 1 := rfl
  unfold headT
  rw [ByteArray.size_append, ByteArray.size_append]
  split
  · omega
  · rw [ByteArray.size_append]; omega
theorem wAcc_size {l : List Da} (hw : WorldOK l) : ∀ k, k ≤ l.length → (wAcc l k).size ≤ 2200 * k
  | 0, _ => Nat.le_refl _
  | k + 1, hk => by
    have h1 := wAcc_size hw k (by omega)
    have h2 := world_short hw k (by omega)
    have h3 := world_four hw (by omega : k < l.length)
    rw [wAcc_at (by omega)]
    have h4 := ctsAcc_size (base := headT (wAcc l k) l[k] k) (world_short hw) (cs := l[k].ctors) (fun c hc => by
      obtain ⟨m, hm, rfl⟩ := List.getElem_of_mem hc
      exact world_ct_in hw (by omega) hm) l[k].ctors.length (Nat.le_refl _)
    have h5 := headT_size (wAcc l k) l[k] k
    omega
set_option maxHeartbeats 3000000 in
theorem text_any (A : Option Addr) (l : List Da) (cap : Nat) (w : World) (hr : RDas w w.heap.size A l) (hw : WorldOK l) :
    Calls Try.prog 138 #[.slice A l.length cap] w fun e w' => e = .returned (.string (wT l)) ∧ Below w.heap.size w w' := by
  have Hr := Lib.hid hr
  have HW := Lib.hid hw
  have hl4 := hw.1
  have HZ : Hid (∀ k, k ≤ l.length → (wAcc l k).size ≤ 2200 * k) := wAcc_size hw
  have HS := Lib.hid (world_short hw)
  clear hr hw
  go_enter Try.func138, Try.ntmps138
  go_wp2_with fail
  go_loopw [3, 4] (fun t i wr => ∃ k : Nat, k ≤ l.length ∧ i = .int .i64 k ∧ t = .string (wAcc l k) ∧ Below w.heap.size w wr) (fun _ i _ => l.length - (intOf i).toNat)
  case atStart => exact ⟨0, by omega, rfl, rfl, Below.refl _ _⟩
  case round =>
    obtain ⟨k, hk, rfl, rfl, hb⟩ := hrel
    have hz := HZ.out k hk
    by_cases hlt : k < l.length
    · have hkI : (k : Int) < (l.length : Int) := by omega
      obtain ⟨b, off, rfl, hbB, A', cp, c0, c1, hszd, hmd⟩ := (Hr.out.below hb (Nat.le_refl _)).2 k hlt
      have hnm := HS.out k hlt
      have h4 := world_four HW.out hlt
      have HMD : Hid (RCts w w.heap.size A' l[k].ctors) := hmd.keep (fun p hp => (hb.cell hp).symm) (Nat.le_refl _)
      have HAT := Lib.hid (wAcc_at hlt)
      have hhz := headT_size (wAcc l k) l[k] k
      have HCZ : Hid (∀ j, j ≤ l[k].ctors.length → (ctsAcc l (headT (wAcc l k) l[k] k) l[k].ctors j).size ≤ (headT (wAcc l k) l[k] k).size + 511 * j) := ctsAcc_size HS.out (fun c hc => by
        obtain ⟨m, hm, rfl⟩ := List.getElem_of_mem hc
        exact world_ct_in HW.out hlt hm)
      have HC1 : Hid (w.cell? ⟨b, off + k * 2 + 1, none⟩ = some (.slice A' l[k].ctors.length cp)) := (hb.cell (p := ⟨b, off + k * 2 + 1, none⟩) hbB).symm.trans c1
      clear hmd
      have HH : Hid (headT (wAcc l k) l[k] k = ((if k = 0 then wAcc l k else wAcc l k ++ ⟨#[59]⟩) ++ l[k].name) ++ ⟨#[61]⟩) := rfl
      by_cases h0 : k = 0
      all_goals
        first
          | (have q : ¬ (0 : Int) < (k : Int) := by omega
             have q' : (k : Int) ≤ 0 := by omega
             have q'' : decide (0 < k) = false := decide_eq_false (by omega)
             rw [if_pos h0] at HH)
          | (have q' : (0 : Int) < (k : Int) := by omega
             have q'' : decide (0 < k) = true := decide_eq_true (by omega)
             rw [if_neg h0] at HH)
        generalize headT (wAcc l k) l[k] k = h at hhz HAT HCZ HH
        generalize wAcc l k = a at hz HH hhz
        clear h0
        go_wp2_with fail
        obtain ⟨wo, rfl⟩ : ∃ wo : World, wo = wr := ⟨_, rfl⟩
        go_loopw [3, 5] (fun t i wi => ∃ j : Nat, j ≤ l[k].ctors.length ∧ i = .int .i64 j ∧ t = .string (ctsAcc l h l[k].ctors j) ∧ Below w.heap.size w wi) (fun _ i _ => l[k].ctors.length - (intOf i).toNat)
        case atStart => exact ⟨0, by omega, rfl, by rw [show ctsAcc l h l[k].ctors 0 = h from rfl, HH.out], hb⟩
        case round =>
          clear hb c0 c1
          obtain ⟨j, hj, rfl, rfl, hb⟩ := hrel
          have hcz := HCZ.out j hj
          have c1 : wr.cell? ⟨b, off + k * 2 + 1, none⟩ = some (.slice A' l[k].ctors.length cp) := (hb.cell (p := ⟨b, off + k * 2 + 1, none⟩) (by have := block_lt_of_cell HC1.out; simpa using this)).trans HC1.out
          by_cases hjt : j < l[k].ctors.length
          · have hjI : (j : Int) < (l[k].ctors.length : Int) := by omega
            obtain ⟨g, o, rfl, hgB, D1, ep, e0, e1, e2, hszm, hmm⟩ := (HMD.out.below hb (Nat.le_refl _)).2 j hjt
            have HIN := Lib.hid (world_ct_in HW.out hlt hjt)
            have HJ := Lib.hid (ctsAcc_at (l := l) (base := h) hjt)
            have hct := ctT_size HS.out HIN.out
            have HRr : Hid (RDas wr wr.heap.size (some ⟨b, off, none⟩) l) := Hr.out.keep (fun p hp => hb.cell hp) hb.size
            have HMM : Hid (RTys wr wr.heap.size D1 l[k].ctors[j].args) := hmm.keep (fun _ _ => rfl) hb.size
            generalize hu : ctT l l[k].ctors[j] = u at hct HJ
            have HU := Lib.hid hu
            generalize ctsAcc l h l[k].ctors j = a2 at hcz HJ
            clear hu hmm
            by_cases h1 : j = 0
            · have q2 : (j : Int) ≤ 0 := by omega
              rw [if_pos h1] at HJ
              clear h1
              go_wp2_with fail
              refine (ctorText_any _ _ l l[k].ctors[j] _ _ _ HRr.out HMM.out HS.out HIN.out).mono ?_
              rw [HU.out]
              rintro e w1 ⟨rfl, hb1⟩
              have hb2 := below_after hb hb1 hb.size
              go_wp2_with fail
              go_roundw
              case rel => first | exact ⟨j + 1, by omega, by go_num, by rw [HJ.out], hb2⟩ | ((repeat apply Exists.intro); exact ⟨⟨j + 1, by omega, by go_num, by rw [HJ.out], hb2⟩, rfl⟩)
              case measure => simp [intOf]; omega
            · have q2 : (0 : Int) < (j : Int) := by omega
              rw [if_neg h1] at HJ
              clear h1
              go_wp2_with fail
              refine (ctorText_any _ _ l l[k].ctors[j] _ _ _ HRr.out HMM.out HS.out HIN.out).mono ?_
              rw [HU.out]
              rintro e w1 ⟨rfl, hb1⟩
              have hb2 := below_after hb hb1 hb.size
              go_wp2_with fail
              go_roundw
              case rel => first | exact ⟨j + 1, by omega, by go_num, by rw [HJ.out], hb2⟩ | ((repeat apply Exists.intro); exact ⟨⟨j + 1, by omega, by go_num, by rw [HJ.out], hb2⟩, rfl⟩)
              case measure => simp [intOf]; omega
          · have he : j = l[k].ctors.length := by omega
            have hjI : (l[k].ctors.length : Int) ≤ (j : Int) := by omega
            have HE : Hid (ctsAcc l h l[k].ctors j = wAcc l (k + 1)) := by unfold Hid; rw [he, HAT.out]
            clear he
            go_wp2_with fail
            go_roundw
            case rel => exact ⟨k + 1, by omega, by go_num, by rw [HE.out], hb⟩
            case measure => simp [intOf]; omega
    · have he : k = l.length := by omega
      have hkI : (l.length : Int) ≤ (k : Int) := by omega
      have HE : Hid (wAcc l k = wT l) := by unfold Hid wT; rw [he]
      clear he
      go_wp2_with fail
      go_ret
      exact ⟨ret_str HE.out, hb⟩
end Go.Proofs.Ytbeejeialjfdnaa
/-
  Rows of constructors and of data types of the call's own, by what they hold and by their kinds; worlds that read the same while nothing from a block on turns. No statement is proved here.
-/
namespace Go.Proofs.Ytbeejeialjfdnaa
open Go.RowKit Go.Deep
set_option linter.unusedVariables false
/-- From block lo on, the blocks of the types T are as they were. -/
def KeepT (lo : Nat) (T : TypeId → Prop) (w w' : World) : Prop := ∀ (b : Nat) (ds : Array Value) (t : TypeId), lo ≤ b → T t → w.heap[b]? = some (Obj.cells ds t (0, 0)) → w'.heap[b]? = w.heap[b]?
def T33 (t : TypeId) : Prop := t = 25
def T31 (t : TypeId) : Prop := t = 25 ∨ t = 148
def T28 (t : TypeId) : Prop := t = 25 ∨ t = 148 ∨ t = 144
theorem KeepT.less {lo : Nat} {T S : TypeId → Prop} {w w' : World} (h : KeepT lo T w w') (hs : ∀ t, S t → T t) : KeepT lo S w w' := fun b ds t hl ht hb => h b ds t hl (hs t ht) hb
theorem KeepT.up {lo lo' : Nat} {T : TypeId → Prop} {w w' : World} (h : KeepT lo T w w') (hl : lo ≤ lo') : KeepT lo' T w w' := fun b ds t hl' ht hb => h b ds t (Nat.le_trans hl hl') ht hb
theorem KeepT.to31 {lo : Nat} {w w' : World} (h : KeepT lo T28 w w') : KeepT lo T31 w w' := h.less fun _ e => e.elim .inl fun e => .inr (.inl e)
theorem KeepT.of31 {lo : Nat} {w w' : World} (h : KeepT lo T31 w w') : KeepT lo T33 w w' := h.less fun _ e => .inl e
theorem KeepT.below {w w' : World} (lo : Nat) (T : TypeId → Prop) (h : Below w.heap.size w w') : KeepT lo T w w' := fun b ds t _ _ hb => h.block b (heap_lt hb)
theorem KeepT.alloc (lo : Nat) (T : TypeId → Prop) (w : World) (o : Obj) : KeepT lo T w (w.alloc o) := fun b ds t _ _ hb => Below.heap_alloc _ _ _ (heap_lt hb)
theorem KeepT.trans {lo : Nat} {T : TypeId → Prop} {a b c : World} (h : KeepT lo T a b) (k : KeepT lo T b c) : KeepT lo T a c := fun g ds t hl ht hg => by
  have h1 := h g ds t hl ht hg
  exact (k g ds t hl ht (h1.trans hg)).trans h1
theorem KeepT.set {lo g : Nat} {T : TypeId → Prop} {w : World} {cs : Array Value} {t : TypeId} (hg : w.heap[g]? = some (.cells cs t (0, 0))) (hn : ¬ T t) (i : Nat) (u : Value) : KeepT lo T w (w.setCell ⟨g, i, none⟩ u) := fun b ds s hl hs hb => by
  refine Below.heap_setCell _ _ _ _ ?_
  intro e
  have e' : b = g := e
  subst e'
  rw [hg] at hb
  injection hb with hb
  injection hb with _ e
  exact hn (e ▸ hs)
theorem KeepT.grown {lo : Nat} {T : TypeId → Prop} {w w' : World} {v : Value} {size n : Nat} {e : TypeId} {xs : List Value} {l0 : Nat} (ho : w.ownsRow l0 e size v n xs) (hn : ¬ T e) (hg : w.grownBy w' v.ownBlock) : KeepT lo T w w' := fun b ds s hl hs hb => by
  refine hg.block b (heap_lt hb) ?_
  intro he
  rcases ho.2 with ⟨rfl, _⟩ | ⟨g, cap, cur, rfl, _, hgg, _⟩
  · simp [Value.ownBlock] at he
  · have : b = g := by simpa [Value.ownBlock] using he
    subst this
    rw [hgg] at hb
    injection hb with hb
    injection hb with _ e
    exact hn (e ▸ hs)
theorem row_keep {w w' : World} {lo size n : Nat} {e : TypeId} {v : Value} {xs : List Value} {T : TypeId → Prop} (h : w.ownsRow lo e size v n xs) (hk : KeepT lo T w w') (hT : T e) : w'.ownsRow lo e size v n xs := by
  refine ⟨h.1, ?_⟩
  rcases h.2 with h0 | ⟨g, cap, cur, a1, a2, a3, a4⟩
  · exact .inl h0
  · exact .inr ⟨g, cap, cur, a1, a2, (hk g cur e a2 hT a3).trans a3, a4⟩
theorem row_lower {w : World} {lo lo' size n : Nat} {e : TypeId} {v : Value} {xs : List Value} (h : w.ownsRow lo e size v n xs) (hl : lo' ≤ lo) : w.ownsRow lo' e size v n xs := by
  refine ⟨h.1, ?_⟩
  rcases h.2 with h0 | ⟨g, cap, cur, a1, a2, a3⟩
  · exact .inl h0
  · exact .inr ⟨g, cap, cur, a1, by omega, a3⟩
theorem OTys.keepT {w w' : World} {lo : Nat} {v : Value} {l : List Ty} {k : Nat} (h : OTys w lo v l k) (hk : KeepT lo T33 w w') : OTys w' lo v l k := by
  obtain ⟨xs, ho, hx⟩ := h
  exact ⟨xs, row_keep ho hk rfl, hx⟩

/-! What a row holds. -/
def CRow (w : World) (lo : Nat) (cs : List Ct) (xs : List Value) : Prop :=
  ∀ j (h : j < cs.length), ∃ v, xs[j * 3]? = some (.string cs[j].name) ∧ xs[j * 3 + 1]? = some v ∧ xs[j * 3 + 2]? = some (.int .i64 cs[j].index) ∧ cs[j].name.size ≤ maxLen ∧ cs[j].args.length ≤ maxLen ∧ OTys w lo v cs[j].args cs[j].args.length
def OCts (w : World) (lo : Nat) (v : Value) (cs : List Ct) : Prop := ∃ xs, w.ownsRow lo 148 3 v cs.length xs ∧ CRow w lo cs xs
def DRow (w : World) (lo : Nat) (l : List Da) (xs : List Value) : Prop :=
  ∀ j (h : j < l.length), ∃ v, xs[j * 2]? = some (.string l[j].name) ∧ xs[j * 2 + 1]? = some v ∧ l[j].name.size ≤ maxLen ∧ l[j].ctors.length ≤ maxLen ∧ OCts w lo v l[j].ctors
def ODas (w : World) (lo : Nat) (v : Value) (l : List Da) : Prop := ∃ xs, w.ownsRow lo 144 2 v l.length xs ∧ DRow w lo l xs
section
variable {w w' : World} {lo lo' : Nat} {v : Value}
theorem CRow.keepT {cs : List Ct} {xs : List Value} (h : CRow w lo cs xs) (hk : KeepT lo T33 w w') : CRow w' lo cs xs := fun j hj => by
  obtain ⟨u, h1, h2, h3, h4, h5, h6⟩ := h j hj
  exact ⟨u, h1, h2, h3, h4, h5, h6.keepT hk⟩
theorem OCts.keepT {cs : List Ct} (h : OCts w lo v cs) (hk : KeepT lo T31 w w') : OCts w' lo v cs := by
  obtain ⟨xs, ho, hx⟩ := h
  exact ⟨xs, row_keep ho hk (.inr rfl), hx.keepT hk.of31⟩
theorem DRow.keepT {l : List Da} {xs : List Value} (h : DRow w lo l xs) (hk : KeepT lo T31 w w') : DRow w' lo l xs := fun j hj => by
  obtain ⟨u, h1, h2, h3, h4, h5⟩ := h j hj
  exact ⟨u, h1, h2, h3, h4, h5.keepT hk⟩
theorem ODas.keepT {l : List Da} (h : ODas w lo v l) (hk : KeepT lo T28 w w') : ODas w' lo v l := by
  obtain ⟨xs, ho, hx⟩ := h
  exact ⟨xs, row_keep ho hk (.inr (.inr rfl)), hx.keepT hk.to31⟩
theorem OCts.lower {cs : List Ct} (h : OCts w lo v cs) (hl : lo' ≤ lo) : OCts w lo' v cs := by
  obtain ⟨xs, ho, hx⟩ := h
  refine ⟨xs, row_lower ho hl, fun j hj => ?_⟩
  obtain ⟨u, h1, h2, h3, h4, h5, h6⟩ := hx j hj
  exact ⟨u, h1, h2, h3, h4, h5, h6.lower hl⟩
theorem ODas.lower {l : List Da} (h : ODas w lo v l) (hl : lo' ≤ lo) : ODas w lo' v l := by
  obtain ⟨xs, ho, hx⟩ := h
  refine ⟨xs, row_lower ho hl, fun j hj => ?_⟩
  obtain ⟨u, h1, h2, h3, h4, h5⟩ := hx j hj
  exact ⟨u, h1, h2, h3, h4, h5.lower hl⟩
theorem CRow.nil (w : World) (lo : Nat) (xs : List Value) : CRow w lo [] xs := fun j h => absurd h (by simp)
theorem DRow.nil (w : World) (lo : Nat) (xs : List Value) : DRow w lo [] xs := fun j h => absurd h (by simp)
theorem OCts.nil (w : World) (lo : Nat) : OCts w lo (.slice none 0 0) [] := ⟨[], World.ownsRow_nil _ _ _ _, CRow.nil _ _ _⟩
theorem CRow.app {cs : List Ct} {xs : List Value} {c : Ct} {u : Value} (h : CRow w lo cs xs) (hx : xs.length = cs.length * 3) (hn : c.name.size ≤ maxLen) (ha : c.args.length ≤ maxLen) (ho : OTys w lo u c.args c.args.length) :
    CRow w lo (cs ++ [c]) (xs ++ [.string c.name, u, .int .i64 c.index]) := fun j hj => by
  by_cases e : j < cs.length
  · obtain ⟨u', h1, h2, h3, h4, h5, h6⟩ := h j e
    have e1 : (cs ++ [c])[j] = cs[j] := List.getElem_append_left e
    rw [e1]
    exact ⟨u', by rw [List.getElem?_append_left (by omega)]; exact h1, by rw [List.getElem?_append_left (by omega)]; exact h2, by rw [List.getElem?_append_left (by omega)]; exact h3, h4, h5, h6⟩
  · have ej : j = cs.length := by simp at hj; omega
    subst ej
    have e1 : (cs ++ [c])[cs.length] = c := by simp
    rw [e1]
    refine ⟨u, ?_, ?_, ?_, hn, ha, ho⟩
    · rw [List.getElem?_append_right (by omega), hx]; simp
    · rw [List.getElem?_append_right (by omega), hx]; simp
    · rw [List.getElem?_append_right (by omega), hx]; simp
theorem OCts.app {cs : List Ct} {xs : List Value} {c : Ct} {u : Value} (h : CRow w lo cs xs) (hx : xs.length = cs.length * 3) (hn : c.name.size ≤ maxLen) (ha : c.args.length ≤ maxLen) (ho : OTys w lo u c.args c.args.length)
    (hr : w.ownsRow lo 148 3 v (cs.length + 1) (xs ++ [.string c.name, u, .int .i64 c.index])) : OCts w lo v (cs ++ [c]) :=
  ⟨_, by rw [List.length_append]; exact hr, h.app hx hn ha ho⟩
theorem DRow.app {l : List Da} {xs : List Value} {d : Da} {u : Value} (h : DRow w lo l xs) (hx : xs.length = l.length * 2) (hn : d.name.size ≤ maxLen) (ha : d.ctors.length ≤ maxLen) (ho : OCts w lo u d.ctors) :
    DRow w lo (l ++ [d]) (xs ++ [.string d.name, u]) := fun j hj => by
  by_cases e : j < l.length
  · obtain ⟨u', h1, h2, h4, h5, h6⟩ := h j e
    have e1 : (l ++ [d])[j] = l[j] := List.getElem_append_left e
    rw [e1]
    exact ⟨u', by rw [List.getElem?_append_left (by omega)]; exact h1, by rw [List.getElem?_append_left (by omega)]; exact h2, h4, h5, h6⟩
  · have ej : j = l.length := by simp at hj; omega
    subst ej
    have e1 : (l ++ [d])[l.length] = d := by simp
    rw [e1]
    refine ⟨u, ?_, ?_, hn, ha, ho⟩
    · rw [List.getElem?_append_right (by omega), hx]; simp
    · rw [List.getElem?_append_right (by omega), hx]; simp
theorem ODas.app {l : List Da} {xs : List Value} {d : Da} {u : Value} (h : DRow w lo l xs) (hx : xs.length = l.length * 2) (hn : d.name.size ≤ maxLen) (ha : d.ctors.length ≤ maxLen) (ho : OCts w lo u d.ctors)
    (hr : w.ownsRow lo 144 2 v (l.length + 1) (xs ++ [.string d.name, u])) : ODas w lo v (l ++ [d]) :=
  ⟨_, by rw [List.length_append]; exact hr, h.app hx hn ha ho⟩
theorem OCts.form {cs : List Ct} (h : OCts w lo v cs) (hl : cs.length ≤ maxLen) : ∃ A cap, v = .slice A cs.length cap ∧ RCts w w.heap.size A cs := by
  obtain ⟨xs, ho, hx⟩ := h
  rcases ho.2 with ⟨rfl, h0⟩ | ⟨g, cap, cur, rfl, hb, hg, hnc, hcm, hcs, htake⟩
  · exact ⟨none, 0, by rw [h0], hl, fun k hk => absurd hk (by omega)⟩
  · refine ⟨_, cap, rfl, hl, fun k hk => ⟨g, 0, rfl, own_lt ho, ?_⟩⟩
    obtain ⟨u, h1, h2, h3, h4, h5, h6⟩ := hx k hk
    obtain ⟨A, cp, rfl, hr⟩ := h6.form h5
    refine ⟨A, cp, ?_, ?_, ?_, h4, hr⟩
    · rw [Nat.zero_add, ho.cellAt (k * 3) (by omega)]; exact h1
    · rw [Nat.zero_add, ho.cellAt (k * 3 + 1) (by omega)]; exact h2
    · rw [Nat.zero_add, ho.cellAt (k * 3 + 2) (by omega)]; exact h3
theorem ODas.form {l : List Da} (h : ODas w lo v l) (hl : l.length ≤ maxLen) : ∃ A cap, v = .slice A l.length cap ∧ RDas w w.heap.size A l := by
  obtain ⟨xs, ho, hx⟩ := h
  rcases ho.2 with ⟨rfl, h0⟩ | ⟨g, cap, cur, rfl, hb, hg, hnc, hcm, hcs, htake⟩
  · exact ⟨none, 0, by rw [h0], hl, fun k hk => absurd hk (by omega)⟩
  · refine ⟨_, cap, rfl, hl, fun k hk => ⟨g, 0, rfl, own_lt ho, ?_⟩⟩
    obtain ⟨u, h1, h2, h4, h5, h6⟩ := hx k hk
    obtain ⟨A, cp, rfl, hr⟩ := h6.form h5
    refine ⟨A, cp, ?_, ?_, h4, hr⟩
    · rw [Nat.zero_add, ho.cellAt (k * 2) (by omega)]; exact h1
    · rw [Nat.zero_add, ho.cellAt (k * 2 + 1) (by omega)]; exact h2
end
/-- From block lo on, what was there is there. -/
def Stays (lo : Nat) (w w' : World) : Prop := w.heap.size ≤ w'.heap.size ∧ ∀ b, lo ≤ b → b < w.heap.size → w'.heap[b]? = w.heap[b]?
theorem Stays.refl (lo : Nat) (w : World) : Stays lo w w := ⟨Nat.le_refl _, fun _ _ _ => rfl⟩
theorem Stays.trans {lo : Nat} {a b c : World} (h : Stays lo a b) (k : Stays lo b c) : Stays lo a c :=
  ⟨Nat.le_trans h.1 k.1, fun g hl hg => (k.2 g hl (Nat.lt_of_lt_of_le hg h.1)).trans (h.2 g hl hg)⟩
theorem Stays.below {lo : Nat} {w w' : World} (h : Below w.heap.size w w') : Stays lo w w' := ⟨h.size, fun b _ hb => h.block b hb⟩
theorem Stays.grown {lo g : Nat} {w w' : World} (h : w.grownBy w' (some g)) (hg : g < lo) : Stays lo w w' := ⟨h.size, fun b hl hb => h.block b hb (fun e => by injection e with e; omega)⟩
theorem Stays.keepT {lo : Nat} {w w' : World} (h : Stays lo w w') (T : TypeId → Prop) : KeepT lo T w w' := fun b ds t hl _ hb => h.2 b hl (heap_lt hb)
/-- The slice v reads as the list l, and does so while nothing from block lo on turns. -/
def Lies (w : World) (lo : Nat) (v : Value) (l : List Da) : Prop := ∃ A cap, v = .slice A l.length cap ∧ ∀ w', Stays lo w w' → RDas w' w'.heap.size A l
theorem Lies.at_ {w w' : World} {lo : Nat} {v : Value} {l : List Da} (h : Lies w lo v l) (hs : Stays lo w w') : Lies w' lo v l := by
  obtain ⟨A, cap, e, hr⟩ := h
  exact ⟨A, cap, e, fun w2 h2 => hr w2 (hs.trans h2)⟩
theorem Lies.form {w : World} {lo : Nat} {v : Value} {l : List Da} (h : Lies w lo v l) : ∃ A cap, v = .slice A l.length cap ∧ RDas w w.heap.size A l := by
  obtain ⟨A, cap, e, hr⟩ := h
  exact ⟨A, cap, e, hr w (Stays.refl _ _)⟩
theorem ODas.lies {w : World} {lo : Nat} {v : Value} {l : List Da} (h : ODas w lo v l) (hl : l.length ≤ maxLen) : Lies w lo v l := by
  obtain ⟨A, cap, rfl, _⟩ := h.form hl
  refine ⟨A, cap, rfl, fun w' hs => ?_⟩
  obtain ⟨A', cap', e, hr⟩ := (h.keepT (hs.keepT T28)).form hl
  injection e with e1 e2 e3
  subst e1
  exact hr
end Go.Proofs.Ytbeejeialjfdnaa
/-
  A world out of its text, as plain data; a constructor out of its text, whatever the text. No statement is proved here.
-/
namespace Go.Proofs.Ytbeejeialjfdnaa
open Go.RowKit Go.Deep
set_option maxRecDepth 100000
set_option linter.unusedVariables false
theorem parseCtor_any (A : Option Addr) (l : List ByteArray) (cap : Nat) (s : ByteArray) (w : World) (hr : RStrs w A l) (hs : s.size ≤ 1048576) :
    Calls Try.prog 137 #[.slice A l.length cap, .string s] w fun e w' => RetCt w w.heap.size e w' (ctP l s) := by
  by_cases h2 : 2 < s.size
  · by_cases hc : ((s[s.size - 2]'(by omega)).toNat : Int) = 58
    · have e : ctP l s = ctQ l (s.extract 0 (s.size - 2)) (((s[s.size - 1]'(by omega)).toNat : Int) - 48) := by
        unfold ctP
        rw [getD_byte (by omega : s.size - 2 < s.size), if_pos ⟨h2, hc⟩, getD_byte (by omega : s.size - 1 < s.size)]
      rw [e]; exact parseCtor_colon A l cap s w hr hs h2 hc
    · have e : ctP l s = ctQ l s 0 := by
        unfold ctP
        rw [getD_byte (by omega : s.size - 2 < s.size), if_neg (fun h => hc h.2)]
      rw [e]; exact parseCtor_plain A l cap s w hr hs h2 hc
  · have e : ctP l s = ctQ l s 0 := by
      unfold ctP
      rw [if_neg (fun h => h2 h.1)]
    rw [e]; exact parseCtor_short A l cap s w hr hs h2
theorem cutB_get_size (s : ByteArray) (c : Int) (k : Nat) : ((cutB s c).getD k ByteArray.empty).size ≤ s.size := by
  by_cases h : k < (cutB s c).length
  · rw [getD_at h]; exact cutB_size (List.getElem_mem h)
  · rw [List.getD_eq_getElem?_getD, List.getElem?_eq_none (by omega)]; exact Nat.zero_le _
theorem ctQ_small (l : List ByteArray) (s : ByteArray) (ix : Int) : (ctQ l s ix).name.size ≤ s.size ∧ (ctQ l s ix).args.length ≤ 4 := by
  unfold ctQ
  split
  · exact ⟨cutB_get_size _ _ _, Nat.zero_le _⟩
  · exact ⟨cutB_get_size _ _ _, by simp only [List.length_map, List.length_take]; omega⟩
theorem ctP_small (l : List ByteArray) (s : ByteArray) : (ctP l s).name.size ≤ s.size ∧ (ctP l s).args.length ≤ 4 := by
  unfold ctP
  split
  · have h := ctQ_small l (s.extract 0 (s.size - 2)) (((s.data.toList.getD (s.size - 1) 0).toNat : Int) - 48)
    have := ext_size s 0 (s.size - 2)
    exact ⟨by omega, h.2⟩
  · exact ctQ_small l s 0
def headsW (s : ByteArray) : List ByteArray := if s.size = 0 then [] else (cutB s 59).take 5
def nameW (L : ByteArray) : ByteArray := (cutB L 61).getD 0 ByteArray.empty
def bodyW (L : ByteArray) : ByteArray := (cutB L 61).getD 1 ByteArray.empty
def ctsW (N : List ByteArray) (L : ByteArray) : List Ct := ((cutB (bodyW L) 124).take 5).map (ctP N)
def daW (N : List ByteArray) (L : ByteArray) : Da := ⟨nameW L, ctsW N L⟩
def outL (H : List ByteArray) : List Da := H.map (daW (H.map nameW))
def outW (s : ByteArray) : List Da := outL (headsW s)
def TwoW (H : List ByteArray) : Prop := ∀ j (h : j < H.length), (cutB H[j] 61).length = 2
def GoodW (s : ByteArray) : Prop := TwoW (headsW s) ∧ WorldOK (outW s) ∧ wT (outW s) = s
noncomputable def pwR (s : ByteArray) : List Da := if dec (GoodW s) then outW s else []
theorem pwR_yes {s : ByteArray} (h : GoodW s) : pwR s = outW s := by unfold pwR; rw [dec_t h]; rfl
theorem pwR_no {s : ByteArray} (h : ¬ GoodW s) : pwR s = [] := by unfold pwR; rw [dec_f h]; rfl
/-- What is returned: a world in rows of the call's own, and whether there is one. -/
def RetW (w : World) (s : ByteArray) (e : Ending) (w' : World) : Prop := ∃ v, e = .returned (.tuple #[v, .bool (dec (GoodW s))]) ∧ ODas w' w.heap.size v (pwR s) ∧ Below w.heap.size w w'
theorem ODas.lit (w : World) (lo : Nat) (h : lo ≤ w.heap.size) : ODas (w.alloc (.cells #[] 144)) lo (.slice (some ⟨w.heap.size, 0, none⟩) 0 0) [] :=
  ⟨[], by simpa using World.ownsRow_lit (base := lo) (e := 144) (size := 2) w #[] 0 h (by simp) rfl, DRow.nil _ _ _⟩
theorem OStrs.lit (w : World) (lo : Nat) (h : lo ≤ w.heap.size) : OStrs (w.alloc (.cells #[] 9)) lo (.slice (some ⟨w.heap.size, 0, none⟩) 0 0) [] := by
  have := World.ownsRow_lit (base := lo) (e := 9) (size := 1) w #[] 0 h (by simp) rfl
  unfold OStrs
  simpa using this
theorem retW_no {w : World} {s : ByteArray} (h : ¬ GoodW s) (w1 : World) (hb : Below w.heap.size w w1) : RetW w s (.returned (.tuple #[.slice (some ⟨w1.heap.size, 0, none⟩) 0 0, .bool false])) (w1.alloc (.cells #[] 144)) :=
  ⟨_, by rw [dec_f h], by rw [pwR_no h]; exact ODas.lit _ _ hb.size, hb.alloc hb.size _⟩
theorem retW_yes {w : World} {s : ByteArray} (h : GoodW s) (v : Value) (w1 : World) (ho : ODas w1 w.heap.size v (outW s)) (hb : Below w.heap.size w w1) : RetW w s (.returned (.tuple #[v, .bool true])) w1 :=
  ⟨_, by rw [dec_t h], by rw [pwR_yes h]; exact ho, hb⟩
theorem take_map_succ {α β : Type} (f : α → β) (L : List α) {k : Nat} (h : k < L.length) : (L.take (k + 1)).map f = (L.take k).map f ++ [f L[k]] := by
  rw [List.take_succ_eq_append_getElem h, List.map_append]; rfl
theorem nameW_at {L : ByteArray} (h : (cutB L 61).length = 2) : nameW L = (cutB L 61)[0]'(by omega) := getD_at (by omega)
theorem bodyW_at {L : ByteArray} (h : (cutB L 61).length = 2) : bodyW L = (cutB L 61)[1]'(by omega) := getD_at (by omega)
end Go.Proofs.Ytbeejeialjfdnaa
/-
  The texts of worlds that the document's draws begin with: each is the text of a valid world. No statement is proved here.
-/
namespace Go.Proofs.Ytbeejeialjfdnaa
open Go.RowKit Go.Deep
set_option maxRecDepth 100000
set_option linter.unusedVariables false
def texts : List ByteArray := [⟨#[76, 61, 78, 105, 108, 124, 67, 111, 110, 115, 40, 73, 44, 76, 41]⟩,
  ⟨#[66, 61, 84, 114, 117, 124, 70, 108, 115, 59, 84, 61, 76, 101, 97, 102, 124, 78, 111, 100, 101, 40, 84, 44, 66, 44, 84, 41]⟩,
  ⟨#[69, 61, 78, 117, 109, 40, 73, 41, 58, 49, 124, 66, 111, 108, 40, 66, 41, 58, 50, 124, 65, 100, 100, 40, 69, 49, 44, 69, 49, 41, 58, 49, 124, 73, 102, 40, 69, 50, 44, 69, 42, 44, 69, 42, 41, 59, 66, 61, 84, 114, 117, 124, 70, 108, 115]⟩,
  ⟨#[79, 61, 78, 111, 110, 124, 83, 111, 109, 40, 73, 41, 59, 80, 61, 80, 97, 105, 114, 40, 79, 44, 79, 41]⟩,
  ⟨#[86, 61, 69, 110, 100, 58, 49, 124, 83, 111, 109, 101, 40, 73, 44, 86, 49, 41, 58, 50, 124, 84, 119, 111, 40, 86, 42, 41]⟩,
  ⟨#[78, 61, 78, 101, 118, 101, 114, 40, 78, 41, 59, 66, 61, 84, 114, 117, 124, 70, 108, 115, 124, 77, 97, 121, 40, 78, 41]⟩,
  ⟨#[83, 61, 82, 101, 100, 124, 71, 114, 101, 101, 110, 124, 66, 108, 117, 101, 124, 77, 105, 120, 40, 83, 44, 83, 41]⟩,
  ⟨#[]⟩]
/-- The names differ, by a count. -/
def diffB (l : List Da) : Bool := (List.range l.length).all fun d =>
  (List.range d).all (fun i => !decide (bs (l.getD i default).name = bs (l.getD d default).name)) &&
  (List.range (l.getD d default).ctors.length).all fun j => (List.range l.length).all fun i => (List.range (l.getD i default).ctors.length).all fun m =>
    !(decide (i < d ∨ (i = d ∧ m < j)) && decide (bs ((l.getD i default).ctors.getD m default).name = bs ((l.getD d default).ctors.getD j default).name))
theorem getD_in {α : Type} [Inhabited α] {l : List α} {k : Nat} (h : k < l.length) : l.getD k default = l[k] := by
  rw [List.getD_eq_getElem?_getD, List.getElem?_eq_getElem h]; rfl
theorem differ_of {l : List Da} (h : diffB l = true) : Differ l := fun d hd _ => by
  unfold diffB at h
  rw [List.all_eq_true] at h
  have h1 := h d (List.mem_range.2 hd)
  rw [Bool.and_eq_true, List.all_eq_true, List.all_eq_true] at h1
  constructor
  · rintro ⟨i, hi, hlt, e⟩
    have := h1.1 i (List.mem_range.2 hlt)
    rw [getD_in hi, getD_in hd] at this
    simp [e] at this
  · intro j hj _
    rintro ⟨i, hi, m, hm, hlt, e⟩
    have h2 := h1.2 j (List.mem_range.2 (by rw [getD_in hd]; exact hj))
    rw [List.all_eq_true] at h2
    have h3 := h2 i (List.mem_range.2 hi)
    rw [List.all_eq_true] at h3
    have h4 := h3 m (List.mem_range.2 (by rw [getD_in hi]; exact hm))
    rw [getD_in hi, getD_in hd, getD_in hm, getD_in hj] at h4
    simp [hlt, e] at h4
def goodB (s : ByteArray) : Bool := (headsW s).all (fun h => decide ((cutB h 61).length = 2)) && (decide ((outW s).length ≤ 4) && ((outW s).all (dataB (outW s).length) && (diffB (outW s) && decide ((wT (outW s)).data.toList = s.data.toList))))
theorem good_of {s : ByteArray} (h : goodB s = true) : GoodW s := by
  unfold goodB at h
  simp only [Bool.and_eq_true, decide_eq_true_eq, List.all_eq_true] at h
  obtain ⟨h1, h2, h3, h4, h5⟩ := h
  exact ⟨fun j hj => h1 _ (List.getElem_mem hj), ⟨h2, fun j hj _ => h3 _ (List.getElem_mem hj), differ_of h4⟩, Go.WideShapes.bytes_inj h5⟩
def textB (s : ByteArray) : Bool := goodB s && decide (0 < (outW s).length) && decide (s.size ≤ 100) && decide (0 < s.size)
theorem texts_ok : ((texts.take 7).all textB) = true := by decide +kernel
theorem texts_len : texts.length = 8 := rfl
/-- One of the first seven. -/
theorem text_good {k : Nat} (hk : k < 7) : ∃ h : k < texts.length, GoodW texts[k] ∧ 0 < (outW texts[k]).length ∧ texts[k].size ≤ 100 ∧ ¬ texts[k].size = 0 := by
  have hl : k < texts.length := by rw [texts_len]; omega
  have h := texts_ok
  rw [List.all_eq_true] at h
  have h1 : texts[k] ∈ texts.take 7 := by
    rw [List.mem_take_iff_getElem]
    exact ⟨k, by rw [texts_len]; omega, rfl⟩
  have h2 := h _ h1
  unfold textB at h2
  simp only [Bool.and_eq_true, decide_eq_true_eq] at h2
  exact ⟨hl, good_of h2.1.1.1, h2.1.1.2, h2.1.2, by have := h2.2; omega⟩
end Go.Proofs.Ytbeejeialjfdnaa
/-
  The least depths of all types that have values, in a map: the program's function. No statement is proved here.
-/
namespace Go.Proofs.Ytbeejeialjfdnaa
open Go.RowKit Go.Maps
set_option maxRecDepth 100000
set_option linter.unusedVariables false
/-- The types that are made within k rounds, and those that are not, yet. -/
def Mk (l : List Da) (k : Nat) (t : Ty) : Prop := t ∈ tysN l.length ∧ Dk (mkF l) k t
noncomputable def opn (l : List Da) (k : Nat) : List Ty := (tysN l.length).filter (fun t => dec (¬ Dk (mkF l) k t))
/-- The types that have values. -/
def Inh (l : List Da) (t : Ty) : Prop := t ∈ tysN l.length ∧ ∃ k, Dk (mkF l) k t
/-- What is made in round k + 1. -/
noncomputable def new (l : List Da) (k : Nat) : List Ty := fil (mkF l (Mk l k)) (opn l k) (opn l k).length
theorem ldep_le {l : List Da} {t : Ty} {k : Nat} (h : Dk (mkF l) k t) : ldep l t ≤ k := by
  rcases ldep_is l t with ⟨h1, _⟩ | ⟨h1, _, h3⟩
  · omega
  · have : ¬ k < (ldep l t).toNat := fun hk => h3 k hk h
    omega
end Go.Proofs.Ytbeejeialjfdnaa
/-
  The least depth of a type, and whether it has values: the program's functions and the document's. No statement is proved here.
-/
namespace Go.Proofs.Ytbeejeialjfdnaa
open Go.RowKit Go.Deep
set_option maxRecDepth 100000
set_option linter.unusedVariables false
theorem ldep_no {l : List Da} {t : Ty} (ht : t ∈ tysN l.length) (h : ¬ Inh l t) : ldep l t = 0 := by
  rcases ldep_is l t with ⟨h1, _⟩ | ⟨_, h2, _⟩
  · exact h1
  · exact absurd ⟨ht, _, h2⟩ h
theorem ldep_yes {l : List Da} {t : Ty} (h : Inh l t) : 0 < ldep l t := by
  obtain ⟨_, k, hk⟩ := h
  exact ldep_pos hk
theorem depth_l (A : Option Addr) (l : List Da) (T : List Int) (cap N : Nat) (t : Ty) (hNT : T.length = N) (w : World) (hr : RInts w A T) (hw : WorldOK l) (hS : St l T (l.length * 4 + 1) 0 0) (ht : t ∈ tysN l.length) :
    Calls Try.prog 82 #[.slice A N cap, .agg #[.int .i64 t.data, .int .i64 t.index]] w fun e w' => e = .returned (.int .i64 (ldep l t)) ∧ Below w.heap.size w w' := by
  subst hNT
  rw [← dep_ldep hw hS ht]
  exact depth_any A T cap l.length t w hr hS.len hw.1 (tys_in ht)
end Go.Proofs.Ytbeejeialjfdnaa
/-
  When a tree is a value of a type: plain mathematics. No statement is proved here.
-/
namespace Go.Proofs.Ytbeejeialjfdnaa
open Go.RowKit
set_option maxRecDepth 100000
set_option linter.unusedVariables false
theorem agR_ok {l : List Da} {t : Ty} {x : Int} (h : x ∈ ctR l t) : ∀ a ∈ agR l t x, TyOK l a := by
  obtain ⟨ht, d, m, hd, h1, rfl, hm⟩ := mem_ctR h
  obtain ⟨td, ti⟩ := t
  simp only at h1
  subst h1
  rw [agR_yes h hd hm]
  intro a ha
  refine ⟨ht.1, ?_⟩
  obtain ⟨hi, hargs⟩ := ctor_parts (world_ctor ht.1 hd hm)
  have hti : 0 ≤ ti ∧ ti ≤ 3 := by
    have h2 := ht.2
    rw [argB_data (by simp only; omega)] at h2
    have := of_decide_eq_true h2
    simp only at this
    omega
  unfold argT at ha
  obtain ⟨b, hb, rfl⟩ := List.mem_map.1 ha
  have hB := hargs b hb
  by_cases hb1 : b.data = -1
  · rw [argB_int hb1] at hB
    have h0 : b.index = 0 := of_decide_eq_true hB
    rw [argOf_other (by omega), argB_int hb1]
    exact decide_eq_true h0
  · rw [argB_data hb1] at hB
    have hp := of_decide_eq_true hB
    by_cases hs : b.index = -1
    · rw [argOf_same hs]
      have h5 : ¬ (Ty.mk b.data (resI l[d].ctors[m].index ti)).data = -1 := hb1
      rw [argB_data h5]
      refine decide_eq_true ?_
      unfold resI
      simp only
      split <;> omega
    · rw [argOf_other hs, argB_data hb1]
      exact decide_eq_true (by omega)
def upto (f : Nat → Bool) : Nat → Bool
  | 0 => true
  | k + 1 => upto f k && f k
theorem upto_le {f : Nat → Bool} {k : Nat} (e : Nat) (h : upto f k = false) : upto f (k + e) = false := by
  induction e with
  | zero => exact h
  | succ e ih => show (upto f (k + e) && f (k + e)) = false; rw [ih]; rfl
theorem upto_f {f : Nat → Bool} {n k : Nat} (hk : k < n) (h : f k = false) : upto f n = false := by
  have := upto_le (f := f) (k := k + 1) (n - (k + 1)) (by show (upto f k && f k) = false; rw [h]; simp)
  rwa [show k + 1 + (n - (k + 1)) = n by omega] at this
theorem upto_t {f : Nat → Bool} {k : Nat} (h : upto f k = true) (h' : f k = true) : upto f (k + 1) = true := by
  show (upto f k && f k) = true; rw [h, h']; rfl
theorem upto_get {f : Nat → Bool} {n k : Nat} (h : upto f n = true) (hk : k < n) : f k = true := by
  by_cases e : f k = true
  · exact e
  · have := upto_f hk (by simpa using e); rw [h] at this; cases this
noncomputable def fitV (l : List Da) : Nat → Ty → Vl → Bool
  | 0, _, _ => false
  | d + 1, t, v => if t.data = -1 then decide (v.ctor = -1) && (decide (0 ≤ v.n) && (decide (v.n ≤ 9) && decide (v.kids.length = 0)))
      else decide (v.n = 0) && (dec (v.ctor ∈ ctR l t) && (decide (v.kids.length = (agR l t v.ctor).length) && upto (fun i => fitV l d ((agR l t v.ctor).getD i default) (v.kids.getD i default)) (agR l t v.ctor).length))
/-- Which of the parts fit. -/
noncomputable def kidV (l : List Da) (d : Nat) (ats : List Ty) (ks : List Vl) (i : Nat) : Bool := fitV l d (ats.getD i default) (ks.getD i default)
section
variable {l : List Da} {d : Nat} {t : Ty} {v : Vl}
theorem fit_int (h : t.data = -1) : fitV l (d + 1) t v = (decide (v.ctor = -1) && (decide (0 ≤ v.n) && (decide (v.n ≤ 9) && decide (v.kids.length = 0)))) := if_pos h
theorem fit_go (h : ¬ t.data = -1) (hn : v.n = 0) (hc : v.ctor ∈ ctR l t) (hl : v.kids.length = (agR l t v.ctor).length) : fitV l (d + 1) t v = upto (kidV l d (agR l t v.ctor) v.kids) (agR l t v.ctor).length := by
  show (if t.data = -1 then _ else _) = _
  rw [if_neg h, decide_eq_true hn, dec_t hc, decide_eq_true hl]; rfl
theorem kidV_at {ats : List Ty} {ks : List Vl} {i : Nat} (h : i < ats.length) (h' : i < ks.length) : kidV l d ats ks i = fitV l d ats[i] ks[i] := by
  unfold kidV
  rw [List.getD_eq_getElem?_getD, List.getD_eq_getElem?_getD, List.getElem?_eq_getElem h, List.getElem?_eq_getElem h']; rfl
end
end Go.Proofs.Ytbeejeialjfdnaa
/-
  The value of least depth of a type: plain mathematics. No statement is proved here.
-/
namespace Go.Proofs.Ytbeejeialjfdnaa
open Go.RowKit
set_option maxRecDepth 100000
set_option linter.unusedVariables false
theorem inh_dk {l : List Da} {t : Ty} (h : Inh l t) : Dk (mkF l) (ldep l t).toNat t := by
  rcases ldep_is l t with ⟨_, h2⟩ | ⟨_, h2, _⟩
  · obtain ⟨_, k, hk⟩ := h; exact absurd hk (h2 k)
  · exact h2
/-- One more than the greatest least depth, or 0. -/
noncomputable def mdp (l : List Da) (L : List Ty) : Int := dpR (ldep l) (Inh l) L
theorem mxT_le {F : Ty → Int} {L : List Ty} {b : Int} (h0 : 0 ≤ b) (h : ∀ a ∈ L, F a ≤ b) : ∀ k, k ≤ L.length → mxT F L k ≤ b
  | 0, _ => h0
  | k + 1, hk => by
    rw [mxT_succ hk]
    have h1 := mxT_le h0 h k (by omega)
    have h2 := h _ (List.getElem_mem hk)
    omega
theorem mxT_ge {F : Ty → Int} {L : List Ty} : ∀ k, k ≤ L.length → ∀ j (hj : j < L.length), j < k → F L[j] ≤ mxT F L k
  | 0, _, _, _, h => absurd h (Nat.not_lt_zero _)
  | k + 1, hk, j, hj, hjk => by
    rw [mxT_succ hk]
    by_cases e : j = k
    · subst e; omega
    · have := mxT_ge (F := F) k (by omega) j hj (by omega); omega
theorem mdp_no {l : List Da} {L : List Ty} (h : ¬ ∀ a ∈ L, Inh l a) : mdp l L = 0 := dpR_no h
theorem mdp_yes {l : List Da} {L : List Ty} (h : ∀ a ∈ L, Inh l a) : mdp l L = mxT (ldep l) L L.length + 1 := dpR_yes h
theorem mdp_pos {l : List Da} {L : List Ty} (h : 0 < mdp l L) : ∀ a ∈ L, Inh l a ∧ ldep l a < mdp l L := by
  by_cases hi : ∀ a ∈ L, Inh l a
  · intro a ha
    refine ⟨hi a ha, ?_⟩
    rw [mdp_yes hi]
    obtain ⟨j, hj, rfl⟩ := List.getElem_of_mem ha
    have := mxT_ge (F := ldep l) L.length (Nat.le_refl _) j hj hj
    omega
  · rw [mdp_no hi] at h; omega
theorem least_ctor {l : List Da} {t : Ty} (hok : TyOK l t) (hd : ¬ t.data = -1) (h : Inh l t) : ∃ x ∈ ctR l t, mdp l (agR l t x) = ldep l t := by
  have h1 := inh_dk h
  have hp := ldep_yes h
  obtain ⟨m, hm⟩ : ∃ m : Nat, (ldep l t).toNat = m + 1 := ⟨(ldep l t).toNat - 1, by omega⟩
  rw [hm] at h1
  have h1' : mkF l (Dk (mkF l) m) t := h1
  obtain ⟨x, hx, ha⟩ := (mkF_iff hok hd).1 h1'
  have hin : ∀ a ∈ agR l t x, a ∈ tysN l.length := fun a ha => ok_tys (agR_ok hx a ha)
  have hall : ∀ a ∈ agR l t x, Inh l a := fun a h' => ⟨hin a h', m, ha a h'⟩
  refine ⟨x, hx, ?_⟩
  rw [mdp_yes hall]
  have hle := mxT_le (F := ldep l) (L := agR l t x) (b := m) (by omega) (fun a h' => ldep_le (ha a h')) _ (Nat.le_refl _)
  have hge := mxT_ge (F := ldep l) (L := agR l t x) _ (Nat.le_refl _)
  have h0 := mxT_nonneg (ldep l) (agR l t x) (agR l t x).length
  generalize mxT (ldep l) (agR l t x) (agR l t x).length = M at hle hge h0
  have hdk : Dk (mkF l) (M.toNat + 1) t := by
    refine (mkF_iff hok hd).2 ⟨x, hx, fun a h' => ?_⟩
    obtain ⟨j, hj, rfl⟩ := List.getElem_of_mem h'
    have h2 := hge j hj hj
    have h3 := inh_dk (hall _ h')
    have h4 := ldep_nonneg l (agR l t x)[j]
    exact Dk_up_le (by omega) _ h3
  have := ldep_le hdk
  omega
end Go.Proofs.Ytbeejeialjfdnaa
