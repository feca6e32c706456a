/-
  The constructors that can make values of a type: the program's function and the document's. No statement is proved here.
-/
import Derived.Test.YtakhobhmplneeaaY05
import Derived.Test.YtakhobhmplneeaaY00
import Derived.Laws.AppendOwn
import Derived.Laws.OwnMore
import Derived.Lib.QuietBelow
import Derived.Deep.QuietTactic
import Derived.Outline
namespace Go.Proofs.Ytakhobhmplneeaa
open Go.RowKit
set_option maxRecDepth 100000
set_option linter.unusedVariables false
def fitsB (a i : Int) : Bool := decide (a = 0 ∨ i = 0 ∨ a = i)
theorem fits_t {a i : Int} (h : a = 0 ∨ i = 0 ∨ a = i) : true = fitsB a i := (decide_eq_true h).symm
theorem fits_f {a i : Int} (h : ¬ (a = 0 ∨ i = 0 ∨ a = i)) : false = fitsB a i := (decide_eq_false h).symm
theorem ieq_t {a b : Int} (h : a = b) : (a == b) = true := beq_iff_eq.2 h
theorem ieq_f {a b : Int} (h : ¬ a = b) : (a == b) = false := beq_eq_false_iff_ne.2 h
theorem meets_any (a i : Int) (w : World) :
    Calls Try.prog 82 #[.int .i64 a, .int .i64 i] w fun e w' => e = .returned (.bool (fitsB a i)) ∧ w = w' := by
  by_cases h1 : a = 0
  · have H := Lib.hid (fits_t (a := a) (i := i) (.inl h1))
    have q1 := ieq_t h1
    clear h1
    go_enter Try.func82, Try.ntmps82
    go_wp2_with fail
    go_ret
    exact ⟨ret_bool H.out, rfl⟩
  · have q1 := ieq_f h1
    by_cases h2 : i = 0
    · have H := Lib.hid (fits_t (a := a) (i := i) (.inr (.inl h2)))
      have q2 := ieq_t h2
      clear h1 h2
      go_enter Try.func82, Try.ntmps82
      go_wp2_with fail
      go_ret
      exact ⟨ret_bool H.out, rfl⟩
    · have q2 := ieq_f h2
      by_cases h3 : a = i
      · have H := Lib.hid (fits_t (a := a) (i := i) (.inr (.inr h3)))
        have q3 := ieq_t h3
        clear h1 h2 h3
        go_enter Try.func82, Try.ntmps82
        go_wp2_with fail
        go_ret
        exact ⟨ret_bool H.out, rfl⟩
      · have H := Lib.hid (fits_f (a := a) (i := i) (by simp [h1, h2, h3]))
        have q3 := ieq_f h3
        clear h1 h2 h3
        go_enter Try.func82, Try.ntmps82
        go_wp2_with fail
        go_ret
        exact ⟨ret_bool H.out, rfl⟩
theorem fits_any (nm : ByteArray) (A : Option Addr) (n cap : Nat) (a i : Int) (w : World) :
    Calls Try.prog 69 #[.agg #[.string nm, .slice A n cap, .int .i64 a], .int .i64 i] w fun e w' => e = .returned (.bool (fitsB a i)) ∧ Below w.heap.size w w' := by
  have HB : Hid (∀ o : Obj, Below w.heap.size w (w.alloc o)) := fun o => (Below.refl _ _).alloc (Nat.le_refl _) _
  by_cases h1 : a = 0
  · have H := Lib.hid (fits_t (a := a) (i := i) (.inl h1))
    have q1 := ieq_t h1
    clear h1
    go_enter Try.func69, Try.ntmps69
    go_wp2_with fail
    go_ret
    exact ⟨ret_bool H.out, HB.out _⟩
  · have q1 := ieq_f h1
    by_cases h2 : i = 0
    · have H := Lib.hid (fits_t (a := a) (i := i) (.inr (.inl h2)))
      have q2 := ieq_t h2
      clear h1 h2
      go_enter Try.func69, Try.ntmps69
      go_wp2_with fail
      go_ret
      exact ⟨ret_bool H.out, HB.out _⟩
    · have q2 := ieq_f h2
      by_cases h3 : a = i
      · have H := Lib.hid (fits_t (a := a) (i := i) (.inr (.inr h3)))
        have q3 := ieq_t h3
        clear h1 h2 h3
        go_enter Try.func69, Try.ntmps69
        go_wp2_with fail
        go_ret
        exact ⟨ret_bool H.out, HB.out _⟩
      · have H := Lib.hid (fits_f (a := a) (i := i) (by simp [h1, h2, h3]))
        have q3 := ieq_f h3
        clear h1 h2 h3
        go_enter Try.func69, Try.ntmps69
        go_wp2_with fail
        go_ret
        exact ⟨ret_bool H.out, HB.out _⟩
/-- The places before k of the constructors that fit an index. -/
def ctL (cs : List Ct) (i : Int) : Nat → List Int
  | 0 => []
  | k + 1 => ctL cs i k ++ (if fitsB (cs.getD k default).index i then [(k : Int)] else [])
theorem ctL_yes {cs : List Ct} {i : Int} {k : Nat} (hk : k < cs.length) (h : fitsB cs[k].index i = true) : ctL cs i (k + 1) = ctL cs i k ++ [(k : Int)] := by
  show ctL cs i k ++ _ = _
  have e : cs.getD k default = cs[k] := by simp [List.getD, List.getElem?_eq_getElem hk]
  rw [e, h]; rfl
theorem ctL_no {cs : List Ct} {i : Int} {k : Nat} (hk : k < cs.length) (h : fitsB cs[k].index i = false) : ctL cs i (k + 1) = ctL cs i k := by
  show ctL cs i k ++ _ = _
  have e : cs.getD k default = cs[k] := by simp [List.getD, List.getElem?_eq_getElem hk]
  rw [e, h]; simp
theorem ctL_length (cs : List Ct) (i : Int) : ∀ k, (ctL cs i k).length ≤ k
  | 0 => Nat.le_refl _
  | k + 1 => by
    have := ctL_length cs i k
    show (ctL cs i k ++ _).length ≤ k + 1
    rw [List.length_append]
    split <;> simp <;> omega
theorem cell_two_one (w : World) (o : Obj) (x : Value) (t : TypeId) : ∀ j u, [x][j]? = some u → ((w.alloc o).alloc (.cells #[x] t)).cell? ((⟨w.heap.size + 1, 0, none⟩ : Addr).add j) = some u := by
  intro j u hj
  match j, hj with
  | 0, hj => simp at hj; subst hj; simp [Addr.add, go_sem]
/-- Integers in a row of the call's own. -/
def OInts (w : World) (lo : Nat) (v : Value) (xs : List Int) : Prop := w.ownsRow lo 3 1 v xs.length (xs.map (Value.int .i64))
theorem info3 : (Try.prog.info? 3).map (fun i => (i.zero, i.size, i.bytes)) = some (some (.int .i64 0), 1, 8) := by kernel_rfl
set_option maxHeartbeats 1200000 in
theorem ctorsOf_data (A : Option Addr) (l : List Da) (cap d : Nat) (ix : Int) (hd : d < l.length) (h4 : l[d].ctors.length ≤ 4) (w : World) (hr : RDas w w.heap.size A l) :
    Calls Try.prog 59 #[.slice A l.length cap, .agg #[.int .i64 d, .int .i64 ix]] w fun e w' => ∃ v, e = .returned v ∧ OInts w' (w.heap.size + 1) v (ctL l[d].ctors ix l[d].ctors.length) ∧ Below w.heap.size w w' := by
  obtain ⟨i0, hi, hz0, hz1, hz2⟩ := info_parts info3
  have hn := hr.1
  unfold maxLen at hn
  obtain ⟨b, off, rfl, hbB, A', cp, c0, c1, hszd, hmd⟩ := hr.2 d hd
  have HMD := Lib.hid hmd
  clear hr hmd
  have q0 : ((d : Int) == -1) = false := ieq_f (by omega)
  have hdI : (d : Int) < (l.length : Int) := by omega
  have c1' : ∀ o, (w.alloc o).cell? ⟨b, off + d * 2 + 1, none⟩ = some (.slice A' l[d].ctors.length cp) := fun o => (World.cell?_alloc_lt _ _ _ hbB).trans c1
  have HB1 : Hid (∀ o : Obj, Below (w.heap.size + 1) (w.alloc o) (w.alloc o)) := fun o => Below.refl _ _
  go_enter Try.func59, Try.ntmps59
  go_wp2_with fail
  generalize hw0 : w.alloc (.cells #[.int .i64 d, .int .i64 ix] 25) = w0
  have x1 : w0.cell? ⟨w.heap.size, 1, none⟩ = some (.int .i64 ix) := by rw [← hw0]; simp [go_sem]
  have hsz0 : w0.heap.size = w.heap.size + 1 := by rw [← hw0]; simp
  have HW0 := Lib.hid hw0
  have HX1 := Lib.hid x1
  have HS0 := Lib.hid hsz0
  have HM0 : Hid (RCts w0 (w.heap.size + 1) A' l[d].ctors) := HMD.out.keep (fun p hp => by rw [← hw0]; exact World.cell?_alloc_lt _ _ _ hp) (by omega)
  clear hw0 x1 hsz0 c0 c1 c1' HB1
  go_loopw [5, 18] (fun v i wr => ∃ k : Nat, k ≤ l[d].ctors.length ∧ i = .int .i64 k ∧ OInts wr (w.heap.size + 1) v (ctL l[d].ctors ix k) ∧ Below (w.heap.size + 1) w0 wr) (fun _ i _ => l[d].ctors.length - (intOf i).toNat)
  case atStart => exact ⟨0, by omega, rfl, World.ownsRow_nil _ _ _ _, Below.refl _ _⟩
  case round =>
    obtain ⟨k, hk, rfl, hown, hb⟩ := hrel
    by_cases hkt : k < l[d].ctors.length
    · obtain ⟨g, o, rfl, hgB, D1, ep, e0, e1, e2, hszk, hmk⟩ := (HM0.out.below hb (Nat.le_refl _)).2 k hkt
      clear hmk
      have x1 : ∀ o, (wr.alloc o).cell? ⟨w.heap.size, 1, none⟩ = some (.int .i64 ix) := fun o => by
        have h1 := hb.cell (p := ⟨w.heap.size, 1, none⟩) (by simp)
        rw [World.cell?_alloc_lt _ _ _ (by have := hb.size; have := HS0.out; simp; omega), h1]; exact HX1.out
      have hlw : w.heap.size + 1 ≤ wr.heap.size := by have := hb.size; have := HS0.out; omega
      by_cases hf : fitsB l[d].ctors[k].index ix = true
      · have HC := Lib.hid (ctL_yes hkt hf)
        have hL := ctL_length l[d].ctors ix k
        have ho : wr.ownsRow (w.heap.size + 1) 3 1 u5 (ctL l[d].ctors ix k).length ((ctL l[d].ctors ix k).map (Value.int .i64)) := hown
        clear hown
        go_wp2_with (first | (go_at_call 82; refine (meets_any _ _ _).mono ?_; rintro e w1 ⟨rfl, rfl⟩) | (at_builtin; refine wpList_append_own _ rfl _ _ 37 rfl (w.heap.size + 1) 3 i0 (.int .i64 0) 1 8 Try.underlying37 hi hz0 hz1 hz2 rfl (by decide) _ _ _ rfl ((ho.alloc _).alloc _) ⟨wr.heap.size + 1, 0, none⟩ 1 1 [.int .i64 k] rfl rfl ?c1 ?c2 ?c3 ?c4 ?c5 ?_))
        case c1 => exact cell_two_one _ _ _ _
        case c2 => intro u hu; simp at hu; subst hu; rfl
        case c3 => unfold maxLen; omega
        case c4 => omega
        case c5 => simp; omega
        intro v' w1 hown' hgrow hnn
        have hb2 : Below (w.heap.size + 1) w0 w1 := ((hb.alloc hlw _).alloc (by simp; omega) _).grown hgrow (by simp; omega) (fun g' e => (ho.lt g' e).1)
        have ho2 : OInts w1 (w.heap.size + 1) v' (ctL l[d].ctors ix (k + 1)) := by unfold OInts; rw [HC.out]; simpa using hown'
        clear hown' hgrow hnn ho hL x1 e0 e1 e2
        go_wp2_with fail
        go_roundw
        case rel => exact ⟨k + 1, by omega, by go_num, ho2, hb2⟩
        case measure => simp [intOf]; omega
      · have hf' : fitsB l[d].ctors[k].index ix = false := by simpa using hf
        have HC := Lib.hid (ctL_no hkt hf')
        clear hf
        have HO := Lib.hid hown
        clear hown
        go_wp2_with (go_at_call 82; refine (meets_any _ _ _).mono ?_; rintro e w1 ⟨rfl, rfl⟩)
        go_roundw
        case rel => exact ⟨k + 1, by omega, by go_num, by rw [HC.out]; exact World.ownsRow.alloc HO.out _, hb.alloc hlw _⟩
        case measure => simp [intOf]; omega
    · have hke : k = l[d].ctors.length := by omega
      have HO : Hid (OInts wr (w.heap.size + 1) u5 (ctL l[d].ctors ix l[d].ctors.length)) := by rw [← hke]; exact hown
      clear hke hown
      go_wp2_with fail
      go_ret
      refine ⟨_, rfl, HO.out, ?_⟩
      have h0 : Below w.heap.size w w0 := by rw [← HW0.out]; exact (Below.refl _ _).alloc (Nat.le_refl _) _
      exact h0.trans (hb.mono (by omega))
end Go.Proofs.Ytakhobhmplneeaa
/-
  The functions that compare types, constructors and data types, where both sides read as the same. No statement is proved here.
-/
namespace Go.Proofs.Ytakhobhmplneeaa
open Go.RowKit Go.Sort
set_option maxRecDepth 100000
set_option linter.unusedVariables false
theorem keep_two {w : World} (o o' : Obj) : ∀ p : Addr, p.block < w.heap.size → ((w.alloc o).alloc o').cell? p = w.cell? p := fun p hp => by
  rw [World.cell?_alloc_lt _ _ _ (by simp; omega), World.cell?_alloc_lt _ _ _ hp]
end Go.Proofs.Ytakhobhmplneeaa
/-
  The constructors that can make values of a type: the document's function. No statement is proved here.
-/
namespace Go.Proofs.Ytakhobhmplneeaa
open Go.RowKit Go.Sort
set_option maxRecDepth 100000
set_option linter.unusedVariables false
theorem cell_one_one (w : World) (x : Value) (t : TypeId) : ∀ j u, [x][j]? = some u → (w.alloc (.cells #[x] t)).cell? ((⟨w.heap.size, 0, none⟩ : Addr).add j) = some u := by
  intro j u hj
  match j, hj with
  | 0, hj => simp at hj; subst hj; simp [Addr.add, go_sem]
theorem fits_yes (nm : ByteArray) (A : Option Addr) (n cap : Nat) (a i : Int) (h : fitsB a i = true) (w : World) :
    Calls Try.prog 69 #[.agg #[.string nm, .slice A n cap, .int .i64 a], .int .i64 i] w fun e w' => e = .returned (.bool true) ∧ Below w.heap.size w w' := by rw [← h]; exact fits_any nm A n cap a i w
theorem fits_no (nm : ByteArray) (A : Option Addr) (n cap : Nat) (a i : Int) (h : fitsB a i = false) (w : World) :
    Calls Try.prog 69 #[.agg #[.string nm, .slice A n cap, .int .i64 a], .int .i64 i] w fun e w' => e = .returned (.bool false) ∧ Below w.heap.size w w' := by rw [← h]; exact fits_any nm A n cap a i w
set_option maxHeartbeats 1200000 in
theorem l1Ctors_data (A : Option Addr) (l : List Da) (cap d : Nat) (ix : Int) (hd : d < l.length) (h4 : l[d].ctors.length ≤ 4) (w : World) (hr : RDas w w.heap.size A l) :
    Calls Try.prog 48 #[.slice A l.length cap, .agg #[.int .i64 d, .int .i64 ix]] w fun e w' => ∃ v, e = .returned v ∧ OInts w' (w.heap.size + 1) v (ctL l[d].ctors ix l[d].ctors.length) ∧ Below w.heap.size w w' := by
  obtain ⟨i0, hi, hz0, hz1, hz2⟩ := info_parts info3
  have hn := hr.1
  unfold maxLen at hn
  obtain ⟨b, off, rfl, hbB, A', cp, c0, c1, hszd, hmd⟩ := hr.2 d hd
  have HMD := Lib.hid hmd
  have HC1 := Lib.hid c1
  clear hr hmd c0 c1
  have q0 : ((d : Int) == -1) = false := ieq_f (by omega)
  have hdI : (d : Int) < (l.length : Int) := by omega
  go_enter Try.func48, Try.ntmps48
  go_wp2_with fail
  generalize hw0 : (w.alloc (.cells #[.int .i64 d, .int .i64 ix] 25)).alloc (.cells #[] 3) = w0
  have HX0 : Hid (w0.cell? ⟨w.heap.size, 0, none⟩ = some (.int .i64 d)) := by unfold Hid; rw [← hw0]; simp [go_sem]
  have HX1 : Hid (w0.cell? ⟨w.heap.size, 1, none⟩ = some (.int .i64 ix)) := by unfold Hid; rw [← hw0]; simp [go_sem]
  have HS0 : Hid (w0.heap.size = w.heap.size + 2) := by unfold Hid; rw [← hw0]; simp
  have HK : Hid (∀ p : Addr, p.block < w.heap.size → w0.cell? p = w.cell? p) := fun p hp => by rw [← hw0]; exact keep_two _ _ p hp
  have HW : Hid (Below w.heap.size w w0) := by rw [← hw0]; exact ((Below.refl _ _).alloc (Nat.le_refl _) _).alloc (by simp) _
  have HO0 : Hid (OInts w0 (w.heap.size + 1) (.slice (some ⟨w.heap.size + 1, 0, none⟩) 0 0) []) := by
    unfold Hid OInts
    rw [← hw0]
    have := World.ownsRow_lit (base := w.heap.size + 1) (e := 3) (size := 1) (w.alloc (.cells #[.int .i64 d, .int .i64 ix] 25)) #[] 0 (by simp) (by simp) rfl
    simpa using this
  clear hw0
  go_loopw [5, 6] (fun v i wr => ∃ k : Nat, k ≤ l[d].ctors.length ∧ i = .int .i64 k ∧ OInts wr (w.heap.size + 1) v (ctL l[d].ctors ix k) ∧ Below (w.heap.size + 1) w0 wr) (fun _ i _ => l[d].ctors.length - (intOf i).toNat)
  case atStart => exact ⟨0, by omega, rfl, HO0.out, Below.refl _ _⟩
  case round =>
    obtain ⟨k, hk, rfl, hown, hb⟩ := hrel
    have HO := Lib.hid hown
    clear hown HO0
    have hlw : w.heap.size + 2 ≤ wr.heap.size := by have := hb.size; have := HS0.out; omega
    have x0 : wr.cell? ⟨w.heap.size, 0, none⟩ = some (.int .i64 d) := (hb.cell (p := ⟨w.heap.size, 0, none⟩) (by simp)).trans HX0.out
    have x1 : wr.cell? ⟨w.heap.size, 1, none⟩ = some (.int .i64 ix) := (hb.cell (p := ⟨w.heap.size, 1, none⟩) (by simp)).trans HX1.out
    have c1 : wr.cell? ⟨b, off + d * 2 + 1, none⟩ = some (.slice A' l[d].ctors.length cp) := ((hb.cell (p := ⟨b, off + d * 2 + 1, none⟩) (Nat.lt_succ_of_lt hbB)).trans (HK.out _ hbB)).trans HC1.out
    by_cases hkt : k < l[d].ctors.length
    · have hkI : (k : Int) < (l[d].ctors.length : Int) := by omega
      have HMr := HMD.out.keep (w' := wr) (fun p hp => (hb.cell (Nat.lt_succ_of_lt hp)).trans (HK.out p hp)) (Nat.le_refl _)
      obtain ⟨g, o, rfl, hgB, D1, ep, e0, e1, e2, hszk, hmk⟩ := HMr.2 k hkt
      clear hmk HMr
      have y0 := cell_regrown x0
      have y1 := cell_regrown x1
      have d1 := cell_regrown c1
      have f0 := cell_regrown e0
      have f1 := cell_regrown e1
      have f2 := cell_regrown e2
      by_cases hf : fitsB l[d].ctors[k].index ix = true
      · have HC := Lib.hid (ctL_yes hkt hf)
        have hL := ctL_length l[d].ctors ix k
        go_wp2_with fail
        clear x0 x1 c1 e0 e1 e2
        refine wp_region_quiet_below (by kernel_rfl) (by kernel_rfl) ?_
        repeat (quiet_step (exact Calls.regrown_of (fits_yes _ _ _ _ _ _ hf _)))
        refine wpQuiet_nil ?_
        intro w2 hw'
        have hb2 : Below wr.heap.size wr w2 := by obtain ⟨⟨dq, osq⟩, h⟩ := hw'; subst h; exact below_regrown wr dq osq
        clear hw' y0 y1 d1 f0 f1 f2
        have hlw2 : w.heap.size + 2 ≤ w2.heap.size := Nat.le_trans hlw hb2.size
        have ho : w2.ownsRow (w.heap.size + 1) 3 1 u5 (ctL l[d].ctors ix k).length ((ctL l[d].ctors ix k).map (Value.int .i64)) := own_below HO.out hb2
        go_wp2_with (at_builtin; refine wpList_append_own _ rfl _ _ 37 rfl (w.heap.size + 1) 3 i0 (.int .i64 0) 1 8 Try.underlying37 hi hz0 hz1 hz2 rfl (by decide) _ _ _ rfl (ho.alloc _) ⟨w2.heap.size, 0, none⟩ 1 1 [.int .i64 k] rfl rfl ?c1 ?c2 ?c3 ?c4 ?c5 ?_)
        case c1 => exact cell_one_one _ _ _
        case c2 => intro u hu; simp at hu; subst hu; rfl
        case c3 => unfold maxLen; omega
        case c4 => omega
        case c5 => simp; omega
        intro v' w1 hown' hgrow hnn
        have hb3 : Below (w.heap.size + 1) w0 w1 := ((hb.trans (hb2.mono (by omega))).alloc (by omega) _).grown hgrow (by simp; omega) (fun g' e => (ho.lt g' e).1)
        have ho2 : OInts w1 (w.heap.size + 1) v' (ctL l[d].ctors ix (k + 1)) := by unfold OInts; rw [HC.out]; simpa using hown'
        clear hown' hgrow hnn ho hL
        go_wp2_with fail
        go_roundw
        case rel => exact ⟨k + 1, by omega, by go_num, ho2, hb3⟩
        case measure => simp [intOf]; omega
      · have hf' : fitsB l[d].ctors[k].index ix = false := by simpa using hf
        have HC := Lib.hid (ctL_no hkt hf')
        clear hf
        go_wp2_with fail
        clear x0 x1 c1 e0 e1 e2
        refine wp_region_quiet_below (by kernel_rfl) (by kernel_rfl) ?_
        repeat (quiet_step (exact Calls.regrown_of (fits_no _ _ _ _ _ _ hf' _)))
        refine wpQuiet_nil ?_
        intro w2 hw'
        have hb2 : Below wr.heap.size wr w2 := by obtain ⟨⟨dq, osq⟩, h⟩ := hw'; subst h; exact below_regrown wr dq osq
        clear hw' y0 y1 d1 f0 f1 f2
        go_wp2_with fail
        go_roundw
        case rel => exact ⟨k + 1, by omega, by go_num, by rw [HC.out]; exact own_below HO.out hb2, hb.trans (hb2.mono (by omega))⟩
        case measure => simp [intOf]; omega
    · have hke : k = l[d].ctors.length := by omega
      have HO2 : Hid (OInts wr (w.heap.size + 1) u5 (ctL l[d].ctors ix l[d].ctors.length)) := by rw [← hke]; exact HO.out
      clear hke
      go_wp2_with fail
      go_ret
      exact ⟨_, rfl, HO2.out, HW.out.trans (hb.mono (by omega))⟩
end Go.Proofs.Ytakhobhmplneeaa
/-
  The constructors that can make values of a type: both functions, whole. No statement is proved here.
-/
namespace Go.Proofs.Ytakhobhmplneeaa
open Go.RowKit
set_option maxRecDepth 100000
set_option linter.unusedVariables false
/-- The places of the constructors of a type. -/
noncomputable def ctR (l : List Da) (t : Ty) : List Int := if dec (TyOK l t) then (if t.data = -1 then [] else ctL (l.getD t.data.toNat default).ctors t.index (l.getD t.data.toNat default).ctors.length) else []
theorem ctR_no {l : List Da} {t : Ty} (h : ¬ TyOK l t) : ctR l t = [] := by unfold ctR; rw [dec_f h]; rfl
theorem ctR_int {l : List Da} {t : Ty} (h : t.data = -1) : ctR l t = [] := by unfold ctR; rw [if_pos h]; split <;> rfl
theorem ctR_data {l : List Da} {d : Nat} {i : Int} (h : TyOK l ⟨d, i⟩) (hd : d < l.length) : ctR l ⟨d, i⟩ = ctL l[d].ctors i l[d].ctors.length := by
  have hn : ¬ (d : Int) = -1 := by omega
  have e : l.getD d default = l[d] := by simp [List.getD, List.getElem?_eq_getElem hd]
  unfold ctR
  rw [dec_t h]
  simp only [if_true, if_neg hn, Int.toNat_natCast, e]
theorem ty_cases {l : List Da} {t : Ty} (h : TyOK l t) : t.data = -1 ∨ ∃ d : Nat, t.data = d ∧ d < l.length := by
  by_cases h1 : t.data = -1
  · exact .inl h1
  · have h2 := h.2
    rw [argB_data h1] at h2
    have h3 := of_decide_eq_true h2
    exact .inr ⟨t.data.toNat, by omega, by omega⟩
theorem ty_four {l : List Da} {t : Ty} (h : TyOK l t) {d : Nat} (hd : d < l.length) : l[d].ctors.length ≤ 4 := (data_len4 (h.1.2.1 d hd hd)).2
theorem OInts.lower {w : World} {lo lo' : Nat} {v : Value} {xs : List Int} (h : OInts w lo v xs) (hl : lo' ≤ lo) : OInts w lo' v xs := by
  have h' : w.ownsRow lo 3 1 v xs.length (xs.map (Value.int .i64)) := h
  refine ⟨h'.1, ?_⟩
  rcases h'.2 with h0 | ⟨g, cap, cur, a1, a2, a3⟩
  · exact .inl h0
  · exact .inr ⟨g, cap, cur, a1, by omega, a3⟩
theorem ctR_len (l : List Da) (t : Ty) : (ctR l t).length ≤ 4 := by
  by_cases h : TyOK l t
  · rcases ty_cases h with h1 | ⟨d, h1, hd⟩
    · rw [ctR_int h1]; simp
    · obtain ⟨td, ti⟩ := t
      simp only at h1
      subst h1
      rw [ctR_data h hd]
      have := ctL_length l[d].ctors ti l[d].ctors.length
      have := ty_four h hd
      omega
  · rw [ctR_no h]; simp
theorem l1Ctors_int (A : Option Addr) (n cap : Nat) (ix : Int) (w : World) :
    Calls Try.prog 48 #[.slice A n cap, .agg #[.int .i64 (-1), .int .i64 ix]] w fun e w' => ∃ v, e = .returned v ∧ OInts w' w.heap.size v [] ∧ Below w.heap.size w w' := by
  have HO : Hid (∀ o : Obj, OInts ((w.alloc o).alloc (.cells #[] 3)) w.heap.size (.slice (some ⟨w.heap.size + 1, 0, none⟩) 0 0) []) := fun o => by
    have := World.ownsRow_lit (base := w.heap.size) (e := 3) (size := 1) (w.alloc o) #[] 0 (by simp) (by simp) rfl
    unfold OInts
    simpa using this
  have HB : Hid (∀ o o' : Obj, Below w.heap.size w ((w.alloc o).alloc o')) := fun o o' => ((Below.refl _ _).alloc (Nat.le_refl _) _).alloc (by simp) _
  go_enter Try.func48, Try.ntmps48
  go_wp2_with fail
  go_ret
  exact ⟨_, rfl, HO.out _, HB.out _ _⟩
theorem ctorsOf_int (A : Option Addr) (n cap : Nat) (ix : Int) (w : World) :
    Calls Try.prog 59 #[.slice A n cap, .agg #[.int .i64 (-1), .int .i64 ix]] w fun e w' => ∃ v, e = .returned v ∧ OInts w' w.heap.size v [] ∧ Below w.heap.size w w' := by
  have HB : Hid (∀ o : Obj, Below w.heap.size w (w.alloc o)) := fun o => (Below.refl _ _).alloc (Nat.le_refl _) _
  go_enter Try.func59, Try.ntmps59
  go_wp2_with fail
  go_ret
  exact ⟨_, rfl, World.ownsRow_nil _ _ _ _, HB.out _⟩
theorem typeV_yes {A : Option Addr} {l : List Da} {cap : Nat} {t : Ty} {w : World} (hr : RDas w w.heap.size A l) (h : TyOK l t) :
    Calls Try.prog 35 #[.slice A l.length cap, .agg #[.int .i64 t.data, .int .i64 t.index]] w fun e w' => e = .returned (.bool true) ∧ Below w.heap.size w w' := by rw [← dec_t h]; exact typeValid_spec A l cap t w hr
theorem typeV_no {A : Option Addr} {l : List Da} {cap : Nat} {t : Ty} {w : World} (hr : RDas w w.heap.size A l) (h : ¬ TyOK l t) :
    Calls Try.prog 35 #[.slice A l.length cap, .agg #[.int .i64 t.data, .int .i64 t.index]] w fun e w' => e = .returned (.bool false) ∧ Below w.heap.size w w' := by rw [← dec_f h]; exact typeValid_spec A l cap t w hr
theorem typeI_yes {A : Option Addr} {l : List Da} {cap : Nat} {t : Ty} {w : World} (hr : RDas w w.heap.size A l) (h : TyOK l t) :
    Calls Try.prog 37 #[.slice A l.length cap, .agg #[.int .i64 t.data, .int .i64 t.index]] w fun e w' => e = .returned (.bool true) ∧ Below w.heap.size w w' := by rw [← dec_t h]; exact typeValid_impl A l cap t w hr
theorem typeI_no {A : Option Addr} {l : List Da} {cap : Nat} {t : Ty} {w : World} (hr : RDas w w.heap.size A l) (h : ¬ TyOK l t) :
    Calls Try.prog 37 #[.slice A l.length cap, .agg #[.int .i64 t.data, .int .i64 t.index]] w fun e w' => e = .returned (.bool false) ∧ Below w.heap.size w w' := by rw [← dec_f h]; exact typeValid_impl A l cap t w hr
/-- What the two functions give for a valid type. -/
theorem l1Ctors_all (A : Option Addr) (l : List Da) (cap : Nat) (t : Ty) (w : World) (hr : RDas w w.heap.size A l) (h : TyOK l t) :
    Calls Try.prog 48 #[.slice A l.length cap, .agg #[.int .i64 t.data, .int .i64 t.index]] w fun e w' => ∃ v, e = .returned v ∧ OInts w' w.heap.size v (ctR l t) ∧ Below w.heap.size w w' := by
  rcases ty_cases h with h1 | ⟨d, h1, hd⟩
  · rw [ctR_int h1, h1]; exact l1Ctors_int A l.length cap t.index w
  · obtain ⟨td, ti⟩ := t
    simp only at h1
    subst h1
    rw [ctR_data h hd]
    exact (l1Ctors_data A l cap d ti hd (ty_four h hd) w hr).mono fun e w' ⟨v, he, ho, hb⟩ => ⟨v, he, ho.lower (by omega), hb⟩
theorem ctorsOf_all (A : Option Addr) (l : List Da) (cap : Nat) (t : Ty) (w : World) (hr : RDas w w.heap.size A l) (h : TyOK l t) :
    Calls Try.prog 59 #[.slice A l.length cap, .agg #[.int .i64 t.data, .int .i64 t.index]] w fun e w' => ∃ v, e = .returned v ∧ OInts w' w.heap.size v (ctR l t) ∧ Below w.heap.size w w' := by
  rcases ty_cases h with h1 | ⟨d, h1, hd⟩
  · rw [ctR_int h1, h1]; exact ctorsOf_int A l.length cap t.index w
  · obtain ⟨td, ti⟩ := t
    simp only at h1
    subst h1
    rw [ctR_data h hd]
    exact (ctorsOf_data A l cap d ti hd (ty_four h hd) w hr).mono fun e w' ⟨v, he, ho, hb⟩ => ⟨v, he, ho.lower (by omega), hb⟩
end Go.Proofs.Ytakhobhmplneeaa
