/-
  The functions that compare types, constructors and data types, where both sides read as the same. No statement is proved here.
-/
import Derived.Test.YtnfjjabeobcenaaU01
import Derived.Test.YtnfjjabeobcenaaU03
import Derived.Test.YtnfjjabeobcenaaU00
import Derived.Lib.QuietBelow
import Derived.Deep.QuietTactic
import Derived.Outline
import Derived.Laws.BytesString
namespace Go.Proofs.Ytnfjjabeobcenaa
open Go.RowKit Go.Sort
set_option maxRecDepth 100000
set_option linter.unusedVariables false
theorem eqType_same (d i : Int) (w : World) :
    Calls Try.prog 104 #[.agg #[.int .i64 d, .int .i64 i], .agg #[.int .i64 d, .int .i64 i]] w fun e w' => e = .returned (.bool true) ∧ Below w.heap.size w w' := by
  go_enter Try.func104, Try.ntmps104
  go_wp2_with fail
  go_ret
  exact ⟨rfl, ((Below.refl _ _).alloc (Nat.le_refl _) _).alloc (by simp) _⟩
set_option maxHeartbeats 800000 in
theorem eqTypeS_same (A A' : Option Addr) (l : List Ty) (cap cap' : Nat) (w : World) (hr : RTys w w.heap.size A l) (hr' : RTys w w.heap.size A' l) :
    Calls Try.prog 100 #[.slice A l.length cap, .slice A' l.length cap'] w fun e w' => e = .returned (.bool true) ∧ Below w.heap.size w w' := by
  have hn := hr.1
  unfold maxLen at hn
  have Hr := Lib.hid hr
  have Hr' := Lib.hid hr'
  clear hr hr'
  go_enter Try.func100, Try.ntmps100
  go_wp2_with fail
  go_loopw [5] (fun i wr => ∃ k : Nat, k ≤ l.length ∧ i = .int .i64 k ∧ Below w.heap.size w wr) (fun i _ => l.length - (intOf i).toNat)
  case atStart => exact ⟨0, by omega, rfl, Below.refl _ _⟩
  case round =>
    obtain ⟨k, hk, rfl, hb⟩ := hrel
    by_cases hlt : k < l.length
    · obtain ⟨b, off, rfl, hbB, c0, c1⟩ := (Hr.out.below hb (Nat.le_refl _)).2 k hlt
      obtain ⟨b', off', rfl, hbB', c0', c1'⟩ := (Hr'.out.below hb (Nat.le_refl _)).2 k hlt
      have d0 := cell_regrown c0
      have d1 := cell_regrown c1
      have d0' := cell_regrown c0'
      have d1' := cell_regrown c1'
      clear c0 c1 c0' c1'
      have hi : (k : Int) < (l.length : Int) := by omega
      go_wp2_with fail
      refine wp_region_quiet_below (by kernel_rfl) (by kernel_rfl) ?_
      repeat (quiet_step (exact Calls.regrown_of (eqType_same _ _ _)))
      refine wpQuiet_nil ?_
      intro _ hw'
      obtain ⟨⟨dq, osq⟩, hw''⟩ := hw'
      subst hw''
      have hb2 := hb.trans ((below_regrown wr dq osq).mono hb.size)
      clear d0 d1 d0' d1'
      go_wp2_with fail
      go_roundw
      case rel => exact ⟨k + 1, by omega, by go_num, hb2⟩
      case measure => simp [intOf]; omega
    · go_wp2_with fail
      go_ret
      exact ⟨rfl, hb⟩
theorem below_two {w w' : World} {o o' : Obj} (h : Below ((w.alloc o).alloc o').heap.size ((w.alloc o).alloc o') w') : Below w.heap.size w w' :=
  (((Below.refl _ _).alloc (Nat.le_refl _) _).alloc (by simp) _).trans (h.mono (by simp; omega))
theorem keep_two {w : World} (o o' : Obj) : ∀ p : Addr, p.block < w.heap.size → ((w.alloc o).alloc o').cell? p = w.cell? p := fun p hp => by
  rw [World.cell?_alloc_lt _ _ _ (by simp; omega), World.cell?_alloc_lt _ _ _ hp]
theorem eqCtor_same (nm : ByteArray) (A A' : Option Addr) (l : List Ty) (cap cap' : Nat) (ix : Int) (w : World) (hr : RTys w w.heap.size A l) (hr' : RTys w w.heap.size A' l) :
    Calls Try.prog 83 #[.agg #[.string nm, .slice A l.length cap, .int .i64 ix], .agg #[.string nm, .slice A' l.length cap', .int .i64 ix]] w fun e w' => e = .returned (.bool true) ∧ Below w.heap.size w w' := by
  have Hr := Lib.hid hr
  have Hr' := Lib.hid hr'
  clear hr hr'
  go_enter Try.func83, Try.ntmps83
  go_wp2_with (go_at_call 100; refine (eqTypeS_same _ _ _ _ _ _ (by exact Hr.out.keep (keep_two _ _) (by simp; omega)) (by exact Hr'.out.keep (keep_two _ _) (by simp; omega))).mono ?_; rintro e w1 ⟨rfl, hb⟩; obtain ⟨hc, hfz⟩ := bcell hb)
  go_ret
  exact ⟨rfl, below_two hb⟩
set_option maxHeartbeats 800000 in
theorem eqCtorS_same (A A' : Option Addr) (l : List Ct) (cap cap' : Nat) (w : World) (hr : RCts w w.heap.size A l) (hr' : RCts w w.heap.size A' l) :
    Calls Try.prog 61 #[.slice A l.length cap, .slice A' l.length cap'] w fun e w' => e = .returned (.bool true) ∧ Below w.heap.size w w' := by
  have hn := hr.1
  unfold maxLen at hn
  have Hr := Lib.hid hr
  have Hr' := Lib.hid hr'
  clear hr hr'
  go_enter Try.func61, Try.ntmps61
  go_wp2_with fail
  go_loopw [5] (fun i wr => ∃ k : Nat, k ≤ l.length ∧ i = .int .i64 k ∧ Below w.heap.size w wr) (fun i _ => l.length - (intOf i).toNat)
  case atStart => exact ⟨0, by omega, rfl, Below.refl _ _⟩
  case round =>
    obtain ⟨k, hk, rfl, hb⟩ := hrel
    by_cases hlt : k < l.length
    · obtain ⟨b, off, rfl, hbB, B1, cp, c0, c1, c2, _, hm⟩ := (Hr.out.below hb (Nat.le_refl _)).2 k hlt
      obtain ⟨b', off', rfl, hbB', B2, cp', c0', c1', c2', _, hm'⟩ := (Hr'.out.below hb (Nat.le_refl _)).2 k hlt
      have d0 := cell_regrown c0
      have d1 := cell_regrown c1
      have d2 := cell_regrown c2
      have d0' := cell_regrown c0'
      have d1' := cell_regrown c1'
      have d2' := cell_regrown c2'
      have Hm := Lib.hid hm
      have Hm' := Lib.hid hm'
      clear c0 c1 c2 c0' c1' c2' hm hm'
      have hi : (k : Int) < (l.length : Int) := by omega
      go_wp2_with fail
      refine wp_region_quiet_below (by kernel_rfl) (by kernel_rfl) ?_
      repeat (quiet_step (exact Calls.regrown_of (eqCtor_same _ _ _ _ _ _ _ _ (Hm.out.keep (fun p hp => (below_regrown wr _ _).cell (Nat.lt_of_lt_of_le hp hb.size)) (Nat.le_trans hb.size (below_regrown wr _ _).size)) (Hm'.out.keep (fun p hp => (below_regrown wr _ _).cell (Nat.lt_of_lt_of_le hp hb.size)) (Nat.le_trans hb.size (below_regrown wr _ _).size)))))
      refine wpQuiet_nil ?_
      intro _ hw'
      obtain ⟨⟨dq, osq⟩, hw''⟩ := hw'
      subst hw''
      have hb2 := hb.trans ((below_regrown wr dq osq).mono hb.size)
      clear d0 d1 d2 d0' d1' d2'
      go_wp2_with fail
      go_roundw
      case rel => exact ⟨k + 1, by omega, by go_num, hb2⟩
      case measure => simp [intOf]; omega
    · go_wp2_with fail
      go_ret
      exact ⟨rfl, hb⟩
theorem eqData_same (nm : ByteArray) (A A' : Option Addr) (l : List Ct) (cap cap' : Nat) (w : World) (hr : RCts w w.heap.size A l) (hr' : RCts w w.heap.size A' l) :
    Calls Try.prog 37 #[.agg #[.string nm, .slice A l.length cap], .agg #[.string nm, .slice A' l.length cap']] w fun e w' => e = .returned (.bool true) ∧ Below w.heap.size w w' := by
  have Hr := Lib.hid hr
  have Hr' := Lib.hid hr'
  clear hr hr'
  go_enter Try.func37, Try.ntmps37
  go_wp2_with (go_at_call 61; refine (eqCtorS_same _ _ _ _ _ _ (by exact Hr.out.keep (keep_two _ _) (by simp; omega)) (by exact Hr'.out.keep (keep_two _ _) (by simp; omega))).mono ?_; rintro e w1 ⟨rfl, hb⟩; obtain ⟨hc, hfz⟩ := bcell hb)
  go_ret
  exact ⟨rfl, below_two hb⟩
set_option maxHeartbeats 800000 in
theorem eqDataS_same (A A' : Option Addr) (l : List Da) (cap cap' : Nat) (w : World) (hr : RDas w w.heap.size A l) (hr' : RDas w w.heap.size A' l) :
    Calls Try.prog 14 #[.slice A l.length cap, .slice A' l.length cap'] w fun e w' => e = .returned (.bool true) ∧ Below w.heap.size w w' := by
  have hn := hr.1
  unfold maxLen at hn
  have Hr := Lib.hid hr
  have Hr' := Lib.hid hr'
  clear hr hr'
  go_enter Try.func14, Try.ntmps14
  go_wp2_with fail
  go_loopw [5] (fun i wr => ∃ k : Nat, k ≤ l.length ∧ i = .int .i64 k ∧ Below w.heap.size w wr) (fun i _ => l.length - (intOf i).toNat)
  case atStart => exact ⟨0, by omega, rfl, Below.refl _ _⟩
  case round =>
    obtain ⟨k, hk, rfl, hb⟩ := hrel
    by_cases hlt : k < l.length
    · obtain ⟨b, off, rfl, hbB, B1, cp, c0, c1, _, hm⟩ := (Hr.out.below hb (Nat.le_refl _)).2 k hlt
      obtain ⟨b', off', rfl, hbB', B2, cp', c0', c1', _, hm'⟩ := (Hr'.out.below hb (Nat.le_refl _)).2 k hlt
      have d0 := cell_regrown c0
      have d1 := cell_regrown c1
      have d0' := cell_regrown c0'
      have d1' := cell_regrown c1'
      have Hm := Lib.hid hm
      have Hm' := Lib.hid hm'
      clear c0 c1 c0' c1' hm hm'
      have hi : (k : Int) < (l.length : Int) := by omega
      go_wp2_with fail
      refine wp_region_quiet_below (by kernel_rfl) (by kernel_rfl) ?_
      repeat (quiet_step (exact Calls.regrown_of (eqData_same _ _ _ _ _ _ _ (Hm.out.keep (fun p hp => (below_regrown wr _ _).cell (Nat.lt_of_lt_of_le hp hb.size)) (Nat.le_trans hb.size (below_regrown wr _ _).size)) (Hm'.out.keep (fun p hp => (below_regrown wr _ _).cell (Nat.lt_of_lt_of_le hp hb.size)) (Nat.le_trans hb.size (below_regrown wr _ _).size)))))
      refine wpQuiet_nil ?_
      intro _ hw'
      obtain ⟨⟨dq, osq⟩, hw''⟩ := hw'
      subst hw''
      have hb2 := hb.trans ((below_regrown wr dq osq).mono hb.size)
      clear d0 d1 d0' d1'
      go_wp2_with fail
      go_roundw
      case rel => exact ⟨k + 1, by omega, by go_num, hb2⟩
      case measure => simp [intOf]; omega
    · go_wp2_with fail
      go_ret
      exact ⟨rfl, hb⟩
end Go.Proofs.Ytnfjjabeobcenaa
/-
  The constructors that can make values of a type: the document's function. No statement is proved here.
-/
namespace Go.Proofs.Ytnfjjabeobcenaa
open Go.RowKit Go.Sort
set_option maxRecDepth 100000
set_option linter.unusedVariables false
theorem cell_one_one (w : World) (x : Value) (t : TypeId) : ∀ j u, [x][j]? = some u → (w.alloc (.cells #[x] t)).cell? ((⟨w.heap.size, 0, none⟩ : Addr).add j) = some u := by
  intro j u hj
  match j, hj with
  | 0, hj => simp at hj; subst hj; simp [Addr.add, go_sem]
theorem fits_yes (nm : ByteArray) (A : Option Addr) (n cap : Nat) (a i : Int) (h : fitsB a i = true) (w : World) :
    Calls Try.prog 92 #[.agg #[.string nm, .slice A n cap, .int .i64 a], .int .i64 i] w fun e w' => e = .returned (.bool true) ∧ Below w.heap.size w w' := by rw [← h]; exact fits_any nm A n cap a i w
theorem fits_no (nm : ByteArray) (A : Option Addr) (n cap : Nat) (a i : Int) (h : fitsB a i = false) (w : World) :
    Calls Try.prog 92 #[.agg #[.string nm, .slice A n cap, .int .i64 a], .int .i64 i] w fun e w' => e = .returned (.bool false) ∧ Below w.heap.size w w' := by rw [← h]; exact fits_any nm A n cap a i w
set_option maxHeartbeats 1200000 in
theorem l1Ctors_data (A : Option Addr) (l : List Da) (cap d : Nat) (ix : Int) (hd : d < l.length) (h4 : l[d].ctors.length ≤ 4) (w : World) (hr : RDas w w.heap.size A l) :
    Calls Try.prog 75 #[.slice A l.length cap, .agg #[.int .i64 d, .int .i64 ix]] w fun e w' => ∃ v, e = .returned v ∧ OInts w' (w.heap.size + 1) v (ctL l[d].ctors ix l[d].ctors.length) ∧ Below w.heap.size w w' := by
  obtain ⟨i0, hi, hz0, hz1, hz2⟩ := info_parts info3
  have hn := hr.1
  unfold maxLen at hn
  obtain ⟨b, off, rfl, hbB, A', cp, c0, c1, hszd, hmd⟩ := hr.2 d hd
  have HMD := Lib.hid hmd
  have HC1 := Lib.hid c1
  clear hr hmd c0 c1
  have q0 : ((d : Int) == -1) = false := ieq_f (by omega)
  have hdI : (d : Int) < (l.length : Int) := by omega
  go_enter Try.func75, Try.ntmps75
  go_wp2_with fail
  generalize hw0 : (w.alloc (.cells #[.int .i64 d, .int .i64 ix] 33)).alloc (.cells #[] 3) = w0
  have HX0 : Hid (w0.cell? ⟨w.heap.size, 0, none⟩ = some (.int .i64 d)) := by unfold Hid; rw [← hw0]; simp [go_sem]
  have HX1 : Hid (w0.cell? ⟨w.heap.size, 1, none⟩ = some (.int .i64 ix)) := by unfold Hid; rw [← hw0]; simp [go_sem]
  have HS0 : Hid (w0.heap.size = w.heap.size + 2) := by unfold Hid; rw [← hw0]; simp
  have HK : Hid (∀ p : Addr, p.block < w.heap.size → w0.cell? p = w.cell? p) := fun p hp => by rw [← hw0]; exact keep_two _ _ p hp
  have HW : Hid (Below w.heap.size w w0) := by rw [← hw0]; exact ((Below.refl _ _).alloc (Nat.le_refl _) _).alloc (by simp) _
  have HO0 : Hid (OInts w0 (w.heap.size + 1) (.slice (some ⟨w.heap.size + 1, 0, none⟩) 0 0) []) := by
    unfold Hid OInts
    rw [← hw0]
    have := World.ownsRow_lit (base := w.heap.size + 1) (e := 3) (size := 1) (w.alloc (.cells #[.int .i64 d, .int .i64 ix] 33)) #[] 0 (by simp) (by simp) rfl
    simpa using this
  clear hw0
  go_loopw [5, 6] (fun v i wr => ∃ k : Nat, k ≤ l[d].ctors.length ∧ i = .int .i64 k ∧ OInts wr (w.heap.size + 1) v (ctL l[d].ctors ix k) ∧ Below (w.heap.size + 1) w0 wr) (fun _ i _ => l[d].ctors.length - (intOf i).toNat)
  case atStart => exact ⟨0, by omega, rfl, HO0.out, Below.refl _ _⟩
  case round =>
    obtain ⟨k, hk, rfl, hown, hb⟩ := hrel
    have HO := Lib.hid hown
    clear hown HO0
    have hlw : w.heap.size + 2 ≤ wr.heap.size := by have := hb.size; have := HS0.out; omega
    have x0 : wr.cell? ⟨w.heap.size, 0, none⟩ = some (.int .i64 d) := (hb.cell (p := ⟨w.heap.size, 0, none⟩) (by simp)).trans HX0.out
    have x1 : wr.cell? ⟨w.heap.size, 1, none⟩ = some (.int .i64 ix) := (hb.cell (p := ⟨w.heap.size, 1, none⟩) (by simp)).trans HX1.out
    have c1 : wr.cell? ⟨b, off + d * 2 + 1, none⟩ = some (.slice A' l[d].ctors.length cp) := ((hb.cell (p := ⟨b, off + d * 2 + 1, none⟩) (Nat.lt_succ_of_lt hbB)).trans (HK.out _ hbB)).trans HC1.out
    by_cases hkt : k < l[d].ctors.length
    · have hkI : (k : Int) < (l[d].ctors.length : Int) := by omega
      have HMr := HMD.out.keep (w' := wr) (fun p hp => (hb.cell (Nat.lt_succ_of_lt hp)).trans (HK.out p hp)) (Nat.le_refl _)
      obtain ⟨g, o, rfl, hgB, D1, ep, e0, e1, e2, hszk, hmk⟩ := HMr.2 k hkt
      clear hmk HMr
      have y0 := cell_regrown x0
      have y1 := cell_regrown x1
      have d1 := cell_regrown c1
      have f0 := cell_regrown e0
      have f1 := cell_regrown e1
      have f2 := cell_regrown e2
      by_cases hf : fitsB l[d].ctors[k].index ix = true
      · have HC := Lib.hid (ctL_yes hkt hf)
        have hL := ctL_length l[d].ctors ix k
        go_wp2_with fail
        clear x0 x1 c1 e0 e1 e2
        refine wp_region_quiet_below (by kernel_rfl) (by kernel_rfl) ?_
        repeat (quiet_step (exact Calls.regrown_of (fits_yes _ _ _ _ _ _ hf _)))
        refine wpQuiet_nil ?_
        intro w2 hw'
        have hb2 : Below wr.heap.size wr w2 := by obtain ⟨⟨dq, osq⟩, h⟩ := hw'; subst h; exact below_regrown wr dq osq
        clear hw' y0 y1 d1 f0 f1 f2
        have hlw2 : w.heap.size + 2 ≤ w2.heap.size := Nat.le_trans hlw hb2.size
        have ho : w2.ownsRow (w.heap.size + 1) 3 1 u5 (ctL l[d].ctors ix k).length ((ctL l[d].ctors ix k).map (Value.int .i64)) := own_below HO.out hb2
        go_wp2_with (at_builtin; refine wpList_append_own _ rfl _ _ 69 rfl (w.heap.size + 1) 3 i0 (.int .i64 0) 1 8 Try.underlying69 hi hz0 hz1 hz2 rfl (by decide) _ _ _ rfl (ho.alloc _) ⟨w2.heap.size, 0, none⟩ 1 1 [.int .i64 k] rfl rfl ?c1 ?c2 ?c3 ?c4 ?c5 ?_)
        case c1 => exact cell_one_one _ _ _
        case c2 => intro u hu; simp at hu; subst hu; rfl
        case c3 => unfold maxLen; omega
        case c4 => omega
        case c5 => simp; omega
        intro v' w1 hown' hgrow hnn
        have hb3 : Below (w.heap.size + 1) w0 w1 := ((hb.trans (hb2.mono (by omega))).alloc (by omega) _).grown hgrow (by simp; omega) (fun g' e => (ho.lt g' e).1)
        have ho2 : OInts w1 (w.heap.size + 1) v' (ctL l[d].ctors ix (k + 1)) := by unfold OInts; rw [HC.out]; simpa using hown'
        clear hown' hgrow hnn ho hL
        go_wp2_with fail
        go_roundw
        case rel => exact ⟨k + 1, by omega, by go_num, ho2, hb3⟩
        case measure => simp [intOf]; omega
      · have hf' : fitsB l[d].ctors[k].index ix = false := by simpa using hf
        have HC := Lib.hid (ctL_no hkt hf')
        clear hf
        go_wp2_with fail
        clear x0 x1 c1 e0 e1 e2
        refine wp_region_quiet_below (by kernel_rfl) (by kernel_rfl) ?_
        repeat (quiet_step (exact Calls.regrown_of (fits_no _ _ _ _ _ _ hf' _)))
        refine wpQuiet_nil ?_
        intro w2 hw'
        have hb2 : Below wr.heap.size wr w2 := by obtain ⟨⟨dq, osq⟩, h⟩ := hw'; subst h; exact below_regrown wr dq osq
        clear hw' y0 y1 d1 f0 f1 f2
        go_wp2_with fail
        go_roundw
        case rel => exact ⟨k + 1, by omega, by go_num, by rw [HC.out]; exact own_below HO.out hb2, hb.trans (hb2.mono (by omega))⟩
        case measure => simp [intOf]; omega
    · have hke : k = l[d].ctors.length := by omega
      have HO2 : Hid (OInts wr (w.heap.size + 1) u5 (ctL l[d].ctors ix l[d].ctors.length)) := by rw [← hke]; exact HO.out
      clear hke
      go_wp2_with fail
      go_ret
      exact ⟨_, rfl, HO2.out, HW.out.trans (hb.mono (by omega))⟩
end Go.Proofs.Ytnfjjabeobcenaa
/-
  The constructors that can make values of a type: both functions, whole. No statement is proved here.
-/
namespace Go.Proofs.Ytnfjjabeobcenaa
open Go.RowKit
set_option maxRecDepth 100000
set_option linter.unusedVariables false
/-- The places of the constructors of a type. -/
noncomputable def ctR (l : List Da) (t : Ty) : List Int := if dec (TyOK l t) then (if t.data = -1 then [] else ctL (l.getD t.data.toNat default).ctors t.index (l.getD t.data.toNat default).ctors.length) else []
theorem ctR_no {l : List Da} {t : Ty} (h : ¬ TyOK l t) : ctR l t = [] := by unfold ctR; rw [dec_f h]; rfl
theorem ctR_int {l : List Da} {t : Ty} (h : t.data = -1) : ctR l t = [] := by unfold ctR; rw [if_pos h]; split <;> rfl
theorem ctR_data {l : List Da} {d : Nat} {i : Int} (h : TyOK l ⟨d, i⟩) (hd : d < l.length) : ctR l ⟨d, i⟩ = ctL l[d].ctors i l[d].ctors.length := by
  have hn : ¬ (d : Int) = -1 := by omega
  have e : l.getD d default = l[d] := by simp [List.getD, List.getElem?_eq_getElem hd]
  unfold ctR
  rw [dec_t h]
  simp only [if_true, if_neg hn, Int.toNat_natCast, e]
theorem ty_cases {l : List Da} {t : Ty} (h : TyOK l t) : t.data = -1 ∨ ∃ d : Nat, t.data = d ∧ d < l.length := by
  by_cases h1 : t.data = -1
  · exact .inl h1
  · have h2 := h.2
    rw [argB_data h1] at h2
    have h3 := of_decide_eq_true h2
    exact .inr ⟨t.data.toNat, by omega, by omega⟩
theorem ty_four {l : List Da} {t : Ty} (h : TyOK l t) {d : Nat} (hd : d < l.length) : l[d].ctors.length ≤ 4 := (data_len4 (h.1.2.1 d hd hd)).2
theorem OInts.lower {w : World} {lo lo' : Nat} {v : Value} {xs : List Int} (h : OInts w lo v xs) (hl : lo' ≤ lo) : OInts w lo' v xs := by
  have h' : w.ownsRow lo 3 1 v xs.length (xs.map (Value.int .i64)) := h
  refine ⟨h'.1, ?_⟩
  rcases h'.2 with h0 | ⟨g, cap, cur, a1, a2, a3⟩
  · exact .inl h0
  · exact .inr ⟨g, cap, cur, a1, by omega, a3⟩
theorem ctR_len (l : List Da) (t : Ty) : (ctR l t).length ≤ 4 := by
  by_cases h : TyOK l t
  · rcases ty_cases h with h1 | ⟨d, h1, hd⟩
    · rw [ctR_int h1]; simp
    · obtain ⟨td, ti⟩ := t
      simp only at h1
      subst h1
      rw [ctR_data h hd]
      have := ctL_length l[d].ctors ti l[d].ctors.length
      have := ty_four h hd
      omega
  · rw [ctR_no h]; simp
theorem l1Ctors_int (A : Option Addr) (n cap : Nat) (ix : Int) (w : World) :
    Calls Try.prog 75 #[.slice A n cap, .agg #[.int .i64 (-1), .int .i64 ix]] w fun e w' => ∃ v, e = .returned v ∧ OInts w' w.heap.size v [] ∧ Below w.heap.size w w' := by
  have HO : Hid (∀ o : Obj, OInts ((w.alloc o).alloc (.cells #[] 3)) w.heap.size (.slice (some ⟨w.heap.size + 1, 0, none⟩) 0 0) []) := fun o => by
    have := World.ownsRow_lit (base := w.heap.size) (e := 3) (size := 1) (w.alloc o) #[] 0 (by simp) (by simp) rfl
    unfold OInts
    simpa using this
  have HB : Hid (∀ o o' : Obj, Below w.heap.size w ((w.alloc o).alloc o')) := fun o o' => ((Below.refl _ _).alloc (Nat.le_refl _) _).alloc (by simp) _
  go_enter Try.func75, Try.ntmps75
  go_wp2_with fail
  go_ret
  exact ⟨_, rfl, HO.out _, HB.out _ _⟩
theorem ctorsOf_int (A : Option Addr) (n cap : Nat) (ix : Int) (w : World) :
    Calls Try.prog 81 #[.slice A n cap, .agg #[.int .i64 (-1), .int .i64 ix]] w fun e w' => ∃ v, e = .returned v ∧ OInts w' w.heap.size v [] ∧ Below w.heap.size w w' := by
  have HB : Hid (∀ o : Obj, Below w.heap.size w (w.alloc o)) := fun o => (Below.refl _ _).alloc (Nat.le_refl _) _
  go_enter Try.func81, Try.ntmps81
  go_wp2_with fail
  go_ret
  exact ⟨_, rfl, World.ownsRow_nil _ _ _ _, HB.out _⟩
theorem typeV_yes {A : Option Addr} {l : List Da} {cap : Nat} {t : Ty} {w : World} (hr : RDas w w.heap.size A l) (h : TyOK l t) :
    Calls Try.prog 31 #[.slice A l.length cap, .agg #[.int .i64 t.data, .int .i64 t.index]] w fun e w' => e = .returned (.bool true) ∧ Below w.heap.size w w' := by rw [← dec_t h]; exact typeValid_spec A l cap t w hr
theorem typeV_no {A : Option Addr} {l : List Da} {cap : Nat} {t : Ty} {w : World} (hr : RDas w w.heap.size A l) (h : ¬ TyOK l t) :
    Calls Try.prog 31 #[.slice A l.length cap, .agg #[.int .i64 t.data, .int .i64 t.index]] w fun e w' => e = .returned (.bool false) ∧ Below w.heap.size w w' := by rw [← dec_f h]; exact typeValid_spec A l cap t w hr
theorem typeI_yes {A : Option Addr} {l : List Da} {cap : Nat} {t : Ty} {w : World} (hr : RDas w w.heap.size A l) (h : TyOK l t) :
    Calls Try.prog 59 #[.slice A l.length cap, .agg #[.int .i64 t.data, .int .i64 t.index]] w fun e w' => e = .returned (.bool true) ∧ Below w.heap.size w w' := by rw [← dec_t h]; exact typeValid_impl A l cap t w hr
theorem typeI_no {A : Option Addr} {l : List Da} {cap : Nat} {t : Ty} {w : World} (hr : RDas w w.heap.size A l) (h : ¬ TyOK l t) :
    Calls Try.prog 59 #[.slice A l.length cap, .agg #[.int .i64 t.data, .int .i64 t.index]] w fun e w' => e = .returned (.bool false) ∧ Below w.heap.size w w' := by rw [← dec_f h]; exact typeValid_impl A l cap t w hr
/-- What the two functions give for a valid type. -/
theorem l1Ctors_all (A : Option Addr) (l : List Da) (cap : Nat) (t : Ty) (w : World) (hr : RDas w w.heap.size A l) (h : TyOK l t) :
    Calls Try.prog 75 #[.slice A l.length cap, .agg #[.int .i64 t.data, .int .i64 t.index]] w fun e w' => ∃ v, e = .returned v ∧ OInts w' w.heap.size v (ctR l t) ∧ Below w.heap.size w w' := by
  rcases ty_cases h with h1 | ⟨d, h1, hd⟩
  · rw [ctR_int h1, h1]; exact l1Ctors_int A l.length cap t.index w
  · obtain ⟨td, ti⟩ := t
    simp only at h1
    subst h1
    rw [ctR_data h hd]
    exact (l1Ctors_data A l cap d ti hd (ty_four h hd) w hr).mono fun e w' ⟨v, he, ho, hb⟩ => ⟨v, he, ho.lower (by omega), hb⟩
theorem ctorsOf_all (A : Option Addr) (l : List Da) (cap : Nat) (t : Ty) (w : World) (hr : RDas w w.heap.size A l) (h : TyOK l t) :
    Calls Try.prog 81 #[.slice A l.length cap, .agg #[.int .i64 t.data, .int .i64 t.index]] w fun e w' => ∃ v, e = .returned v ∧ OInts w' w.heap.size v (ctR l t) ∧ Below w.heap.size w w' := by
  rcases ty_cases h with h1 | ⟨d, h1, hd⟩
  · rw [ctR_int h1, h1]; exact ctorsOf_int A l.length cap t.index w
  · obtain ⟨td, ti⟩ := t
    simp only at h1
    subst h1
    rw [ctR_data h hd]
    exact (ctorsOf_data A l cap d ti hd (ty_four h hd) w hr).mono fun e w' ⟨v, he, ho, hb⟩ => ⟨v, he, ho.lower (by omega), hb⟩
end Go.Proofs.Ytnfjjabeobcenaa
/-
  The text of a mark. No statement is proved here.
-/
namespace Go.Proofs.Ytnfjjabeobcenaa
open Go.RowKit
set_option maxRecDepth 100000
set_option linter.unusedVariables false
/-- A string of one byte. -/
def one (x : Int) : ByteArray := ByteArray.empty.push (UInt8.ofNat x.toNat)
theorem one_size (x : Int) : (one x).size = 1 := rfl
theorem conv_one (w : World) (x : Int) : (Go.convert 90 9 (.slice (some ⟨w.heap.size, 0, none⟩) 1 1)).run Try.prog (w.alloc (.cells #[.int .u8 x] 5)) = .ok (.string (one x)) (w.alloc (.cells #[.int .u8 x] 5)) := by
  rw [run_convert_bytes_string _ 90 9 5 _ 1 1 Try.underlying90 Try.underlying5 Try.underlying9]
  exact run_bytesToString _ ⟨w.heap.size, 0, none⟩ 1 1 [x] (by simp [loadCells, go_sem])
theorem quo_le {m : Int} (h : 0 < m) : 0 ≤ m / 10 ∧ m / 10 + 1 ≤ m := by omega
set_option maxHeartbeats 800000 in
theorem markText_any (k : Int) (w : World) (h0 : 0 < k) (h1 : k ≤ 8388608) :
    Calls Try.prog 48 #[.int .i64 k] w fun e w' => ∃ s : ByteArray, e = .returned (.string s) ∧ s.size ≤ 8388609 ∧ Below w.heap.size w w' := by
  go_enter Try.func48, Try.ntmps48
  go_wp2_with fail
  go_loopw [0, 3] (fun q t wr => ∃ m : Int, 0 ≤ m ∧ m ≤ k ∧ q = .int .i64 m ∧ ∃ s : ByteArray, t = .string s ∧ (s.size : Int) + m ≤ k ∧ Below w.heap.size w wr) (fun q _ _ => (intOf q).toNat)
  case atStart => exact ⟨k, by omega, by omega, rfl, ByteArray.empty, rfl, by simp, Below.refl _ _⟩
  case round =>
    obtain ⟨m, hm0, hm1, rfl, s, rfl, hs, hb⟩ := hrel
    have hlw := hb.size
    by_cases hlt : 0 < m
    · have hq := quo_le hlt
      have hq0 := hq.1
      have hq1 := hq.2
      clear hq
      have hcv := conv_one wr
      have hos := one_size
      go_wp2_with fail
      go_roundw
      case rel => exact ⟨m / 10, by omega, by omega, rfl, _, rfl, by rw [ByteArray.size_append, one_size]; push_cast; omega, hb.alloc hlw _⟩
      case measure => simp [intOf]; omega
    · go_wp2_with fail
      go_ret
      exact ⟨_, rfl, by rw [ByteArray.size_append]; have : (ByteArray.mk #[109]).size = 1 := rfl; omega, hb⟩
end Go.Proofs.Ytnfjjabeobcenaa
/-
  The functions that count how much types, constructors and data types hold. No statement is proved here.
-/
namespace Go.Proofs.Ytnfjjabeobcenaa
open Go.RowKit
set_option maxRecDepth 100000
set_option linter.unusedVariables false
theorem ret_i64 {a b : Int} (h : a = b) : Ending.returned (.int .i64 a) = .returned (.int .i64 b) := by rw [h]
theorem szTypeS_any (A : Option Addr) (n cap : Nat) (l : Int) (w : World) (hn : n ≤ maxLen) (h0 : 0 ≤ l) (h1 : l ≤ 1048576) :
    Calls Try.prog 89 #[.slice A n cap, .int .i64 l] w fun e w' => e = .returned (.int .i64 (left l n)) ∧ w = w' := by
  unfold maxLen at hn
  by_cases hc : (n : Int) ≤ l
  · have H := Lib.hid (left_ok hc)
    go_enter Try.func89, Try.ntmps89
    go_wp2_with fail
    go_ret
    exact ⟨ret_i64 H.out.symm, rfl⟩
  · have H := Lib.hid (left_no hc)
    go_enter Try.func89, Try.ntmps89
    go_wp2_with fail
    go_ret
    exact ⟨ret_i64 H.out.symm, rfl⟩
theorem szCtor_any (nm : ByteArray) (A : Option Addr) (m cap : Nat) (ix l : Int) (w : World) (hs : nm.size ≤ maxLen) (hm : m ≤ maxLen) (h0 : 0 ≤ l) (h1 : l ≤ 1048576) :
    Calls Try.prog 69 #[.agg #[.string nm, .slice A m cap, .int .i64 ix], .int .i64 l] w fun e w' => e = .returned (.int .i64 (left l (nm.size + m))) ∧ Below w.heap.size w w' := by
  have hm' := hm
  unfold maxLen at hs hm
  by_cases hc : (nm.size : Int) ≤ l
  · by_cases hc2 : (m : Int) ≤ l - nm.size
    · have H := Lib.hid (left_ok (l := l) (n := nm.size + m) (by omega))
      have H2 := Lib.hid (left_ok hc2)
      go_enter Try.func69, Try.ntmps69
      go_wp2_with (go_at_call 89; refine (szTypeS_any _ _ _ _ _ hm' (by omega) (by omega)).mono ?_; rw [H2.out]; rintro e w' ⟨rfl, rfl⟩)
      go_ret
      exact ⟨ret_i64 (by rw [H.out]; omega), (Below.refl _ _).alloc (Nat.le_refl _) _⟩
    · have H := Lib.hid (left_no (l := l) (n := nm.size + m) (by omega))
      have H2 := Lib.hid (left_no hc2)
      go_enter Try.func69, Try.ntmps69
      go_wp2_with (go_at_call 89; refine (szTypeS_any _ _ _ _ _ hm' (by omega) (by omega)).mono ?_; rw [H2.out]; rintro e w' ⟨rfl, rfl⟩)
      go_ret
      exact ⟨ret_i64 (by rw [H.out]), (Below.refl _ _).alloc (Nat.le_refl _) _⟩
  · have H := Lib.hid (left_no (l := l) (n := nm.size + m) (by omega))
    go_enter Try.func69, Try.ntmps69
    go_wp2_with fail
    go_ret
    exact ⟨ret_i64 (by rw [H.out]), (Below.refl _ _).alloc (Nat.le_refl _) _⟩
set_option maxHeartbeats 400000 in
theorem szCtorS_any (A : Option Addr) (cs : List Ct) (cap : Nat) (l : Int) (w : World) (hr : RCts w w.heap.size A cs) (h0 : 0 ≤ l) (h1 : l ≤ 1048576) :
    Calls Try.prog 53 #[.slice A cs.length cap, .int .i64 l] w fun e w' => e = .returned (.int .i64 (left l (wCts cs))) ∧ Below w.heap.size w w' := by
  have hn := hr.1
  unfold maxLen at hn
  have Hr := Lib.hid hr
  clear hr
  by_cases hc : (cs.length : Int) ≤ l
  · go_enter Try.func53, Try.ntmps53
    go_wp2_with fail
    go_loopw [1, 5] (fun t i wr => ∃ k : Nat, k ≤ cs.length ∧ i = .int .i64 k ∧ ∃ q : Int, 0 ≤ q ∧ q ≤ 1048576 ∧ t = .int .i64 q ∧ Hid (q = l - (cs.length + ((cs.take k).map wCt).sum : Nat)) ∧ Below w.heap.size w wr) (fun _ i _ => cs.length - (intOf i).toNat)
    case atStart => exact ⟨0, by omega, rfl, _, by omega, by omega, rfl, by unfold Hid; simp, Below.refl _ _⟩
    case round =>
      obtain ⟨k, hk, rfl, q, hq0, hq1, rfl, HQ, hb⟩ := hrel
      by_cases hlt : k < cs.length
      · obtain ⟨b, off, rfl, hbB, A', cp, c0, c1, c2, hs, hm⟩ := (Hr.out.below hb (Nat.le_refl _)).2 k hlt
        have hm1 := hm.1
        have HS := Lib.hid (sum_take_succ wCt cs k hlt)
        have HL := Lib.hid (sum_take_le wCt cs (k + 1))
        have HW : Hid (wCt cs[k] = cs[k].name.size + cs[k].args.length) := rfl
        have Hm := Lib.hid hm
        clear hm
        by_cases hc2 : ((cs[k].name.size + cs[k].args.length : Nat) : Int) ≤ q
        · have H2 := Lib.hid (left_ok hc2)
          go_wp2_with (go_at_call 69; refine (szCtor_any _ _ _ _ _ _ _ hs hm1 (by omega) (by omega)).mono ?_; rw [H2.out]; rintro e w' ⟨rfl, hb'⟩)
          have hb2 := hb.trans (hb'.mono hb.size)
          go_roundw
          case rel => exact ⟨k + 1, by omega, by go_num, _, by omega, by omega, rfl, by unfold Hid; rw [HS.out, HW.out, HQ.out]; omega, hb2⟩
          case measure => simp [intOf]; omega
        · have H2 := Lib.hid (left_no hc2)
          have H := Lib.hid (left_no (l := l) (n := wCts cs) (by unfold wCts; rw [HQ.out] at hc2; rw [HS.out, HW.out] at HL; have := HL.out; omega))
          go_wp2_with (go_at_call 69; refine (szCtor_any _ _ _ _ _ _ _ hs hm1 (by omega) (by omega)).mono ?_; rw [H2.out]; rintro e w' ⟨rfl, hb'⟩)
          have hb2 := hb.trans (hb'.mono hb.size)
          go_ret
          exact ⟨ret_i64 (by rw [H.out]), hb2⟩
      · go_wp2_with fail
        go_ret
        exact ⟨ret_i64 (by rw [HQ.out, List.take_of_length_le (by omega)]; rw [left_ok]; rfl; rw [List.take_of_length_le (by omega)] at HQ; unfold wCts; have := HQ.out; omega), hb⟩
  · have H := Lib.hid (left_no (l := l) (n := wCts cs) (by unfold wCts; omega))
    go_enter Try.func53, Try.ntmps53
    go_wp2_with fail
    go_ret
    exact ⟨ret_i64 (by rw [H.out]), Below.refl _ _⟩
theorem szData_any (nm : ByteArray) (A : Option Addr) (cs : List Ct) (cap : Nat) (l : Int) (w : World) (hs : nm.size ≤ maxLen) (hr : RCts w w.heap.size A cs) (h0 : 0 ≤ l) (h1 : l ≤ 1048576) :
    Calls Try.prog 29 #[.agg #[.string nm, .slice A cs.length cap], .int .i64 l] w fun e w' => e = .returned (.int .i64 (left l (nm.size + wCts cs))) ∧ Below w.heap.size w w' := by
  unfold maxLen at hs
  have Hr := Lib.hid hr
  clear hr
  by_cases hc : (nm.size : Int) ≤ l
  · by_cases hc2 : (wCts cs : Int) ≤ l - nm.size
    · have H := Lib.hid (left_ok (l := l) (n := nm.size + wCts cs) (by omega))
      have H2 := Lib.hid (left_ok hc2)
      go_enter Try.func29, Try.ntmps29
      go_wp2_with (go_at_call 53; refine (szCtorS_any _ _ _ _ _ (by exact Hr.out.keep (fun p hp => World.cell?_alloc_lt _ _ _ hp) (by simp)) (by omega) (by omega)).mono ?_; rw [H2.out]; rintro e w' ⟨rfl, hb⟩)
      go_ret
      exact ⟨ret_i64 (by rw [H.out]; omega), ((Below.refl _ _).alloc (Nat.le_refl _) _).trans (hb.mono (by simp))⟩
    · have H := Lib.hid (left_no (l := l) (n := nm.size + wCts cs) (by omega))
      have H2 := Lib.hid (left_no hc2)
      go_enter Try.func29, Try.ntmps29
      go_wp2_with (go_at_call 53; refine (szCtorS_any _ _ _ _ _ (by exact Hr.out.keep (fun p hp => World.cell?_alloc_lt _ _ _ hp) (by simp)) (by omega) (by omega)).mono ?_; rw [H2.out]; rintro e w' ⟨rfl, hb⟩)
      go_ret
      exact ⟨ret_i64 (by rw [H.out]), ((Below.refl _ _).alloc (Nat.le_refl _) _).trans (hb.mono (by simp))⟩
  · have H := Lib.hid (left_no (l := l) (n := nm.size + wCts cs) (by omega))
    go_enter Try.func29, Try.ntmps29
    go_wp2_with fail
    go_ret
    exact ⟨ret_i64 (by rw [H.out]), (Below.refl _ _).alloc (Nat.le_refl _) _⟩
set_option maxHeartbeats 400000 in
theorem szDataS_any (A : Option Addr) (ds : List Da) (cap : Nat) (l : Int) (w : World) (hr : RDas w w.heap.size A ds) (h0 : 0 ≤ l) (h1 : l ≤ 1048576) :
    Calls Try.prog 7 #[.slice A ds.length cap, .int .i64 l] w fun e w' => e = .returned (.int .i64 (left l (wDas ds))) ∧ Below w.heap.size w w' := by
  have hn := hr.1
  unfold maxLen at hn
  have Hr := Lib.hid hr
  clear hr
  by_cases hc : (ds.length : Int) ≤ l
  · go_enter Try.func7, Try.ntmps7
    go_wp2_with fail
    go_loopw [1, 5] (fun t i wr => ∃ k : Nat, k ≤ ds.length ∧ i = .int .i64 k ∧ ∃ q : Int, 0 ≤ q ∧ q ≤ 1048576 ∧ t = .int .i64 q ∧ Hid (q = l - (ds.length + ((ds.take k).map wDa).sum : Nat)) ∧ Below w.heap.size w wr) (fun _ i _ => ds.length - (intOf i).toNat)
    case atStart => exact ⟨0, by omega, rfl, _, by omega, by omega, rfl, by unfold Hid; simp, Below.refl _ _⟩
    case round =>
      obtain ⟨k, hk, rfl, q, hq0, hq1, rfl, HQ, hb⟩ := hrel
      by_cases hlt : k < ds.length
      · obtain ⟨b, off, rfl, hbB, A', cp, c0, c1, hs, hm⟩ := (Hr.out.below hb (Nat.le_refl _)).2 k hlt
        have HS := Lib.hid (sum_take_succ wDa ds k hlt)
        have HL := Lib.hid (sum_take_le wDa ds (k + 1))
        have HW : Hid (wDa ds[k] = ds[k].name.size + wCts ds[k].ctors) := rfl
        have Hm := Lib.hid (hm.keep (fun _ _ => rfl) hb.size)
        clear hm
        by_cases hc2 : ((ds[k].name.size + wCts ds[k].ctors : Nat) : Int) ≤ q
        · have H2 := Lib.hid (left_ok hc2)
          go_wp2_with (go_at_call 29; refine (szData_any _ _ _ _ _ _ hs Hm.out (by omega) (by omega)).mono ?_; rw [H2.out]; rintro e w' ⟨rfl, hb'⟩)
          have hb2 := hb.trans (hb'.mono hb.size)
          go_roundw
          case rel => exact ⟨k + 1, by omega, by go_num, _, by omega, by omega, rfl, by unfold Hid; rw [HS.out, HW.out, HQ.out]; omega, hb2⟩
          case measure => simp [intOf]; omega
        · have H2 := Lib.hid (left_no hc2)
          have H := Lib.hid (left_no (l := l) (n := wDas ds) (by unfold wDas; rw [HQ.out] at hc2; rw [HS.out, HW.out] at HL; have := HL.out; omega))
          go_wp2_with (go_at_call 29; refine (szData_any _ _ _ _ _ _ hs Hm.out (by omega) (by omega)).mono ?_; rw [H2.out]; rintro e w' ⟨rfl, hb'⟩)
          have hb2 := hb.trans (hb'.mono hb.size)
          go_ret
          exact ⟨ret_i64 (by rw [H.out]), hb2⟩
      · go_wp2_with fail
        go_ret
        exact ⟨ret_i64 (by rw [HQ.out, List.take_of_length_le (by omega)]; rw [left_ok]; rfl; rw [List.take_of_length_le (by omega)] at HQ; unfold wDas; have := HQ.out; omega), hb⟩
  · have H := Lib.hid (left_no (l := l) (n := wDas ds) (by unfold wDas; omega))
    go_enter Try.func7, Try.ntmps7
    go_wp2_with fail
    go_ret
    exact ⟨ret_i64 (by rw [H.out]), Below.refl _ _⟩
end Go.Proofs.Ytnfjjabeobcenaa
