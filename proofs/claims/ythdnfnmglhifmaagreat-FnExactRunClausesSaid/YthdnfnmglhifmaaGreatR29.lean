/-
  Lists of clauses: how they lie in memory, and what they hold. No statement is proved here.
-/
import Derived.Test.YthdnfnmglhifmaaGreatR28
import Derived.Test.YthdnfnmglhifmaaGreatR20
namespace Go.Proofs.YthdnfnmglhifmaaGreat
open Go.RowKit Go.Sort
set_option maxRecDepth 100000
set_option linter.unusedVariables false
structure Cn where
  pat : Pt
  g0 : Int
  g1 : Int
  g2 : Int
instance : Inhabited Cn := ⟨⟨default, 0, 0, 0⟩⟩
def wC (b : Cn) : Nat := wPs b.pat.kids
def wCs (l : List Cn) : Nat := l.length + (l.map wC).sum
def RCn (d : Nat) (w : World) (B b o : Nat) (x : Cn) : Prop := ∃ A' cap, w.cell? ⟨b, o, none⟩ = some (.int .i64 x.pat.op) ∧ w.cell? ⟨b, o + 1, none⟩ = some (.int .i64 x.pat.ctor) ∧ w.cell? ⟨b, o + 2, none⟩ = some (.int .i64 x.pat.n) ∧ w.cell? ⟨b, o + 3, none⟩ = some (.int .i64 x.pat.m) ∧ w.cell? ⟨b, o + 4, none⟩ = some (.int .i64 x.pat.var) ∧ w.cell? ⟨b, o + 5, none⟩ = some (.slice A' x.pat.kids.length cap) ∧ w.cell? ⟨b, o + 6, none⟩ = some (.int .i64 x.g0) ∧ w.cell? ⟨b, o + 7, none⟩ = some (.int .i64 x.g1) ∧ w.cell? ⟨b, o + 8, none⟩ = some (.int .i64 x.g2) ∧ RPs d w B A' x.pat.kids
def RCs (d : Nat) (w : World) (B : Nat) (A : Option Addr) (l : List Cn) : Prop := l.length ≤ maxLen ∧ ∀ k (h : k < l.length), ∃ b off, A = some ⟨b, off, none⟩ ∧ b < B ∧ RCn d w B b (off + k * 9) l[k]
section
variable {w w' : World} {B B' d : Nat} {A : Option Addr} {l : List Cn}
theorem RCn.keep {b o : Nat} {x : Cn} (h : RCn d w B b o x) (hb : b < B) (hk : ∀ p : Addr, p.block < B → w'.cell? p = w.cell? p) (hB : B ≤ B') : RCn d w' B' b o x := by
  obtain ⟨A', cap, h0, h1, h2, h3, h4, h5, h6, h7, h8, hv⟩ := h
  exact ⟨A', cap, (hk _ hb).trans h0, (hk _ hb).trans h1, (hk _ hb).trans h2, (hk _ hb).trans h3, (hk _ hb).trans h4, (hk _ hb).trans h5, (hk _ hb).trans h6, (hk _ hb).trans h7, (hk _ hb).trans h8, hv.keep hk hB⟩
theorem RCs.keep (h : RCs d w B A l) (hk : ∀ p : Addr, p.block < B → w'.cell? p = w.cell? p) (hB : B ≤ B') : RCs d w' B' A l :=
  ⟨h.1, fun k hk' => by
    obtain ⟨b, off, e, hb, hc⟩ := h.2 k hk'
    exact ⟨b, off, e, by omega, hc.keep hb hk hB⟩⟩
theorem RCs.below {B0 : Nat} (h : RCs d w B A l) (hb : Below B0 w w') (hB : B ≤ B0) : RCs d w' B A l := h.keep (fun _ hp => hb.cell (Nat.lt_of_lt_of_le hp hB)) (Nat.le_refl _)
theorem RCs.at_ (h : RCs d w w.heap.size A l) (hb : Below w.heap.size w w') : RCs d w' w'.heap.size A l := h.keep (fun _ hp => hb.cell hp) hb.size
theorem RCs.nil : RCs d w B A [] := ⟨Nat.zero_le _, fun k h => absurd h (Nat.not_lt_zero _)⟩
theorem RCn.more {d' b o : Nat} {x : Cn} (h : RCn d w B b o x) (hd : d ≤ d') : RCn d' w B b o x := by
  obtain ⟨A', cap, h0, h1, h2, h3, h4, h5, h6, h7, h8, hv⟩ := h
  exact ⟨A', cap, h0, h1, h2, h3, h4, h5, h6, h7, h8, hv.more hd⟩
end
set_option maxHeartbeats 1600000 in
theorem szCs_any (d : Nat) (A : Option Addr) (l : List Cn) (cap : Nat) (q0 : Int) (w : World) (hr : RCs d w w.heap.size A l) (h0 : 0 ≤ q0) (h1 : q0 ≤ 1048576) :
    Calls Tryz.prog 36 #[.slice A l.length cap, .int .i64 q0] w fun e w' => e = .returned (.int .i64 (left q0 (wCs l))) ∧ Below w.heap.size w w' := by
  have hn := hr.1
  unfold maxLen at hn
  have Hr := Lib.hid hr
  have HSum : Hid (wCs l = l.length + (l.map wC).sum) := rfl
  clear hr
  by_cases hc : (l.length : Int) ≤ q0
  · go_enter Tryz.func36, Tryz.ntmps36
    go_wp2_with fail
    go_loopw [1, 5] (fun t i wr => ∃ k : Nat, k ≤ l.length ∧ i = .int .i64 k ∧ ∃ q : Int, 0 ≤ q ∧ q ≤ 1048576 ∧ t = .int .i64 q ∧ Hid (q = q0 - (l.length + ((l.take k).map wC).sum : Nat)) ∧ Below w.heap.size w wr) (fun _ i _ => l.length - (intOf i).toNat)
    case atStart => exact ⟨0, by omega, rfl, _, by omega, by omega, rfl, by unfold Hid; simp, Below.refl _ _⟩
    case round =>
      obtain ⟨k, hk, rfl, q, hq0, hq1, rfl, HQ, hb⟩ := hrel
      by_cases hlt : k < l.length
      · obtain ⟨b, off, rfl, hbB, A', cp, c0, c1, c2, c3, c4, c5, c6, c7, c8, hm⟩ := (Hr.out.below hb (Nat.le_refl _)).2 k hlt
        have HSS := Lib.hid (sum_take_succ wC l k hlt)
        have HL := Lib.hid (sum_take_le wC l (k + 1))
        have HW : Hid (wC l[k] = wPs l[k].pat.kids) := rfl
        have Hm := Lib.hid (hm.keep (fun _ _ => rfl) hb.size)
        clear hm
        by_cases hc2 : (wPs l[k].pat.kids : Int) ≤ q
        · have H2 := Lib.hid (left_ok hc2)
          go_wp2_with (go_at_call 101; refine (szC_any d _ _ _ _ _ _ _ _ _ _ _ _ _ Hm.out (by omega) (by omega)).mono ?_; rw [H2.out]; rintro e w' ⟨rfl, hb'⟩)
          have hb2 := hb.trans (hb'.mono hb.size)
          go_roundw
          case rel => exact ⟨k + 1, by omega, by go_num, _, by omega, by omega, rfl, by unfold Hid; rw [HSS.out, HW.out, HQ.out]; omega, hb2⟩
          case measure => simp [intOf]; omega
        · have H2 := Lib.hid (left_no hc2)
          have H := Lib.hid (left_no (l := q0) (n := wCs l) (by rw [HSum.out]; rw [HQ.out] at hc2; rw [HSS.out, HW.out] at HL; have := HL.out; omega))
          go_wp2_with (go_at_call 101; refine (szC_any d _ _ _ _ _ _ _ _ _ _ _ _ _ Hm.out (by omega) (by omega)).mono ?_; rw [H2.out]; rintro e w' ⟨rfl, hb'⟩)
          have hb2 := hb.trans (hb'.mono hb.size)
          go_ret
          exact ⟨ret_i64 (by rw [H.out]), hb2⟩
      · go_wp2_with fail
        go_ret
        refine ⟨ret_i64 ?_, hb⟩
        have h2 := HQ.out
        rw [List.take_of_length_le (by omega), ← HSum.out] at h2
        rw [left_ok (by omega)]
        exact h2
  · have H := Lib.hid (left_no (l := q0) (n := wCs l) (by rw [HSum.out]; omega))
    go_enter Tryz.func36, Tryz.ntmps36
    go_wp2_with fail
    go_ret
    exact ⟨ret_i64 (by rw [H.out]), Below.refl _ _⟩
end Go.Proofs.YthdnfnmglhifmaaGreat
/-
  When a guard is right for the variables of a pattern: both functions. No statement is proved here.
-/
namespace Go.Proofs.YthdnfnmglhifmaaGreat
open Go.RowKit Go.Sort Go.Deep
set_option maxRecDepth 100000
set_option linter.unusedVariables false
noncomputable def gdB (g0 g1 g2 : Int) (L : List Vt) : Bool := if g0 = 0 then decide (g1 = 0 ∧ g2 = 0) else decide ((g0 = 1 ∨ g0 = 2) ∧ 0 ≤ g2 ∧ g2 ≤ 9) && dec ((⟨g1, ⟨-1, 0⟩⟩ : Vt) ∈ L)
section
variable {g0 g1 g2 : Int} {L : List Vt}
theorem gd_none (h : g0 = 0) : gdB g0 g1 g2 L = decide (g1 = 0 ∧ g2 = 0) := if_pos h
theorem gd_yes (h : ¬ g0 = 0) (h' : (g0 = 1 ∨ g0 = 2) ∧ 0 ≤ g2 ∧ g2 ≤ 9) : gdB g0 g1 g2 L = dec ((⟨g1, ⟨-1, 0⟩⟩ : Vt) ∈ L) := by unfold gdB; rw [if_neg h, decide_eq_true h']; rfl
theorem gd_no (h : ¬ g0 = 0) (h' : ¬ ((g0 = 1 ∨ g0 = 2) ∧ 0 ≤ g2 ∧ g2 ≤ 9)) : gdB g0 g1 g2 L = false := by unfold gdB; rw [if_neg h, decide_eq_false h']; rfl
end
theorem eqlGd (a b c : Int) (w : World) : (Go.binOp .eql 55 (.agg #[.int .i64 a, .int .i64 b, .int .i64 c]) (.agg #[.int .i64 0, .int .i64 0, .int .i64 0])).run Tryz.prog w = .ok (.bool (decide (a = 0 ∧ b = 0 ∧ c = 0))) w := by
  have hS : Tryz.prog.underlying 55 = some (.struct (Tryz.prog.fieldsOf 55)) := by kernel_rfl
  have hp : Tryz.prog.stoodInHeld 55 = false := by kernel_rfl
  have u3 := Tryz.underlying3
  have a3 := Tryz.isAgg3
  have z3 := Tryz.sizeOf3
  rw [run_eql_struct, show (10000 : Nat) = 9999 + 1 from rfl, run_equalIn_agg w 9999 55 _ _ hS hp]
  simp only [Program.fieldsOf, Tryz.underlying55]
  go_simp
  by_cases h1 : a = 0 <;> by_cases h2 : b = 0 <;> by_cases h3 : c = 0 <;> simp_all
theorem guardGd (x y : Operand) (xs ys : Array Value) (w : World) : (eqGuard .eql 55 x y (.agg xs) (.agg ys)).run Tryz.prog w = .ok () w := run_eqGuard_agg (P := Tryz.prog) w .eql 55 x y xs ys (by kernel_rfl)
theorem cond_any (g0 g1 g2 : Int) (w : World) : Calls Tryz.prog 75 #[.agg #[.int .i64 g0, .int .i64 g1, .int .i64 g2]] w fun e w' => ∃ v, e = .returned (.tuple #[v, .bool (decide (g0 = 1 ∨ g0 = 2))]) ∧ Below w.heap.size w w' := by
  by_cases h1 : g0 = 1
  · have u1 := ieq_t h1
    have HD : Hid (decide (g0 = 1 ∨ g0 = 2) = true) := decide_eq_true (.inl h1)
    have HQ : Hid (∀ v w', Below w.heap.size w w' → ∃ v', Ending.returned (.tuple #[v, .bool true]) = .returned (.tuple #[v', .bool (decide (g0 = 1 ∨ g0 = 2))]) ∧ Below w.heap.size w w') := fun v w' hb => ⟨v, by rw [HD.out], hb⟩
    clear h1
    go_enter Tryz.func75, Tryz.ntmps75
    go_wp2_with fail
    go_ret2
    exact HQ.out _ _ ((Below.refl _ _).alloc (Nat.le_refl _) _)
  · have u1 := ieq_f h1
    by_cases h2 : g0 = 2
    · have u2 := ieq_t h2
      have HD : Hid (decide (g0 = 1 ∨ g0 = 2) = true) := decide_eq_true (.inr h2)
      have HQ : Hid (∀ v w', Below w.heap.size w w' → ∃ v', Ending.returned (.tuple #[v, .bool true]) = .returned (.tuple #[v', .bool (decide (g0 = 1 ∨ g0 = 2))]) ∧ Below w.heap.size w w') := fun v w' hb => ⟨v, by rw [HD.out], hb⟩
      clear h1 h2
      go_enter Tryz.func75, Tryz.ntmps75
      go_wp2_with fail
      go_ret2
      exact HQ.out _ _ ((Below.refl _ _).alloc (Nat.le_refl _) _)
    · have u2 := ieq_f h2
      have HD : Hid (decide (g0 = 1 ∨ g0 = 2) = false) := decide_eq_false (by omega)
      have HQ : Hid (∀ v w', Below w.heap.size w w' → ∃ v', Ending.returned (.tuple #[v, .bool false]) = .returned (.tuple #[v', .bool (decide (g0 = 1 ∨ g0 = 2))]) ∧ Below w.heap.size w w') := fun v w' hb => ⟨v, by rw [HD.out], hb⟩
      clear h1 h2
      go_enter Tryz.func75, Tryz.ntmps75
      go_wp2_with fail
      go_ret2
      exact HQ.out _ _ ((Below.refl _ _).alloc (Nat.le_refl _) _)
def GBx (w : World) (b : Nat) (g0 g1 g2 : Int) : Prop := w.cell? ⟨b, 0, none⟩ = some (.int .i64 g0) ∧ w.cell? ⟨b, 1, none⟩ = some (.int .i64 g1) ∧ w.cell? ⟨b, 2, none⟩ = some (.int .i64 g2)
theorem GBx.at_ {w w' : World} {b : Nat} {g0 g1 g2 : Int} (h : GBx w b g0 g1 g2) (hb : Below w.heap.size w w') : GBx w' b g0 g1 g2 := by
  have hk := hb.block b (Go.block_lt_of_cell h.1)
  exact ⟨(World.cell?_of_block (a := ⟨b, 0, none⟩) hk).trans h.1, (World.cell?_of_block (a := ⟨b, 1, none⟩) hk).trans h.2.1, (World.cell?_of_block (a := ⟨b, 2, none⟩) hk).trans h.2.2⟩
set_option maxHeartbeats 3200000 in
theorem guard_impl (g0 g1 g2 : Int) (A : Option Addr) (L : List Vt) (cap : Nat) (w : World) (hr : RVts w w.heap.size A L) :
    Calls Tryz.prog 134 #[.agg #[.int .i64 g0, .int .i64 g1, .int .i64 g2], .slice A L.length cap] w fun e w' => e = .returned (.bool (gdB g0 g1 g2 L)) ∧ Below w.heap.size w w' := by
  have Hr := Lib.hid hr
  clear hr
  generalize hw0 : w.alloc (.cells #[.int .i64 g0, .int .i64 g1, .int .i64 g2] 55) = w0
  have hb0 : Below w.heap.size w w0 := by rw [← hw0]; exact (Below.refl _ _).alloc (Nat.le_refl _) _
  have HX : Hid (GBx w0 w.heap.size g0 g1 g2) := by rw [← hw0]; exact ⟨by simp [go_sem], by simp [go_sem], by simp [go_sem]⟩
  have HW := Lib.hid hw0
  clear hw0
  by_cases h0 : g0 = 0
  · have u0 := ieq_t h0
    have HG : Hid (gdB g0 g1 g2 L = decide (g0 = 0 ∧ g1 = 0 ∧ g2 = 0)) := by unfold Hid; rw [gd_none h0]; simp [h0]
    have hq := eqlGd g0 g1 g2
    have gd := guardGd
    clear h0
    go_enter Tryz.func134, Tryz.ntmps134
    go_wp2_with fail
    go_ret
    exact ⟨ret_bool (by rw [HG.out]; simp), by rw [HW.out]; exact hb0⟩
  · have u0 := ieq_f h0
    have HC := Lib.hid (cond_any g0 g1 g2 w0)
    have HCV := Lib.hid (containsVt_any A L cap ⟨g1, ⟨-1, 0⟩⟩)
    by_cases h1 : g0 = 1 ∨ g0 = 2
    · have HD : Hid (decide (g0 = 1 ∨ g0 = 2) = true) := decide_eq_true h1
      by_cases h2 : 0 ≤ g2
      · have q2 : decide (0 ≤ g2) = true := decide_eq_true h2
        by_cases h3 : g2 ≤ 9
        · have q3 : decide (g2 ≤ 9) = true := decide_eq_true h3
          have HG : Hid (gdB g0 g1 g2 L = dec ((⟨g1, ⟨-1, 0⟩⟩ : Vt) ∈ L)) := gd_yes h0 ⟨h1, h2, h3⟩
          clear h0 h1 h2 h3
          obtain ⟨x0, x1, x2⟩ := HX.out
          go_enter Tryz.func134, Tryz.ntmps134
          go_wp2_with (first | (go_at_call 75; (try rw [HW.out]); refine HC.out.mono ?_; rw [HD.out]; rintro e1 w1 ⟨v1, rfl, hb1⟩; obtain ⟨y0, y1, y2⟩ := HX.out.at_ hb1; have hb1w := below_aft hb0 hb1 hb0.size) | (go_at_call 200; refine (HCV.out w1 (Hr.out.at_ hb1w)).mono ?_; rintro e2 w2 ⟨rfl, hb2⟩))
          go_ret
          exact ⟨ret_bool HG.out.symm, below_aft hb1w hb2 hb1w.size⟩
        · have q3 : decide (g2 ≤ 9) = false := decide_eq_false h3
          have HG : Hid (gdB g0 g1 g2 L = false) := gd_no h0 (fun h => h3 h.2.2)
          clear h0 h1 h2 h3
          obtain ⟨x0, x1, x2⟩ := HX.out
          go_enter Tryz.func134, Tryz.ntmps134
          go_wp2_with (go_at_call 75; (try rw [HW.out]); refine HC.out.mono ?_; rw [HD.out]; rintro e1 w1 ⟨v1, rfl, hb1⟩; obtain ⟨y0, y1, y2⟩ := HX.out.at_ hb1; have hb1w := below_aft hb0 hb1 hb0.size)
          go_ret
          exact ⟨ret_bool HG.out.symm, hb1w⟩
      · have q2 : decide (0 ≤ g2) = false := decide_eq_false h2
        have HG : Hid (gdB g0 g1 g2 L = false) := gd_no h0 (fun h => h2 h.2.1)
        clear h0 h1 h2
        obtain ⟨x0, x1, x2⟩ := HX.out
        go_enter Tryz.func134, Tryz.ntmps134
        go_wp2_with (go_at_call 75; (try rw [HW.out]); refine HC.out.mono ?_; rw [HD.out]; rintro e1 w1 ⟨v1, rfl, hb1⟩; obtain ⟨y0, y1, y2⟩ := HX.out.at_ hb1; have hb1w := below_aft hb0 hb1 hb0.size)
        go_ret
        exact ⟨ret_bool HG.out.symm, hb1w⟩
    · have HD : Hid (decide (g0 = 1 ∨ g0 = 2) = false) := decide_eq_false h1
      have HG : Hid (gdB g0 g1 g2 L = false) := gd_no h0 (fun h => h1 h.1)
      clear h0 h1
      by_cases h2 : 0 ≤ g2
      · have q2 : decide (0 ≤ g2) = true := decide_eq_true h2
        by_cases h3 : g2 ≤ 9
        · have q3 : decide (g2 ≤ 9) = true := decide_eq_true h3
          clear h2 h3
          obtain ⟨x0, x1, x2⟩ := HX.out
          go_enter Tryz.func134, Tryz.ntmps134
          go_wp2_with (go_at_call 75; (try rw [HW.out]); refine HC.out.mono ?_; rw [HD.out]; rintro e1 w1 ⟨v1, rfl, hb1⟩; obtain ⟨y0, y1, y2⟩ := HX.out.at_ hb1; have hb1w := below_aft hb0 hb1 hb0.size)
          go_ret
          exact ⟨ret_bool HG.out.symm, hb1w⟩
        · have q3 : decide (g2 ≤ 9) = false := decide_eq_false h3
          clear h2 h3
          obtain ⟨x0, x1, x2⟩ := HX.out
          go_enter Tryz.func134, Tryz.ntmps134
          go_wp2_with (go_at_call 75; (try rw [HW.out]); refine HC.out.mono ?_; rw [HD.out]; rintro e1 w1 ⟨v1, rfl, hb1⟩; obtain ⟨y0, y1, y2⟩ := HX.out.at_ hb1; have hb1w := below_aft hb0 hb1 hb0.size)
          go_ret
          exact ⟨ret_bool HG.out.symm, hb1w⟩
      · have q2 : decide (0 ≤ g2) = false := decide_eq_false h2
        clear h2
        obtain ⟨x0, x1, x2⟩ := HX.out
        go_enter Tryz.func134, Tryz.ntmps134
        go_wp2_with (go_at_call 75; (try rw [HW.out]); refine HC.out.mono ?_; rw [HD.out]; rintro e1 w1 ⟨v1, rfl, hb1⟩; obtain ⟨y0, y1, y2⟩ := HX.out.at_ hb1; have hb1w := below_aft hb0 hb1 hb0.size)
        go_ret
        exact ⟨ret_bool HG.out.symm, hb1w⟩
theorem ty_int {l : List Da} {t : Ty} (h : TyOK l t) (hd : t.data = -1) : t.index = 0 := by
  have h2 := h.2
  rw [argB_int hd] at h2
  exact of_decide_eq_true h2
theorem vrP_tys {l : List Da} : ∀ {d : Nat} {t : Ty} {p : Pt}, TyOK l t → shP l d t p = true → ∀ x ∈ vrP l d t p, TyOK l x.ty
  | 0, t, p, _, h => by rw [shP_zero] at h; cases h
  | d + 1, t, p, ht, h => fun x hx => by
    obtain ⟨h1, h2, h3⟩ := shP_parts h
    rw [vrP_go] at hx
    rcases List.mem_append.1 hx with hx | hx
    · by_cases hn : p.op = 2 ∨ p.op = 6
      · rw [hdV_yes hn] at hx
        rw [List.mem_singleton.1 hx]
        exact ht
      · rw [hdV_no hn] at hx; cases hx
    · obtain ⟨i, hi, hx⟩ := catV_mem hx
      have hil : i < (tysP l t p).length := Nat.lt_of_lt_of_le hi (limV_le l t p)
      rw [kidR_at hil (by omega)] at hx
      exact vrP_tys (tysP_ok ht h1 _ (List.getElem_mem hil)) (h3 i hil (by omega)) x hx
def IntV (L : List Vt) : Prop := Once L ∧ ∀ x ∈ L, x.ty.data = -1 → x.ty.index = 0
theorem mem_no {L : List Vt} {n : Int} (hI : IntV L) (h : findV L n = -1) : dec ((⟨n, ⟨-1, 0⟩⟩ : Vt) ∈ L) = false := dec_f (fun hm => by
  obtain ⟨k, hk, e⟩ := List.mem_iff_getElem.1 hm
  have h1 := hI.1.at_ hk
  rw [e] at h1
  simp only at h1
  omega)
theorem mem_at {L : List Vt} {n : Int} {k : Nat} (hI : IntV L) (hk : k < L.length) (h : findV L n = k) : dec ((⟨n, ⟨-1, 0⟩⟩ : Vt) ∈ L) = decide (L[k].ty.data = -1) := by
  by_cases hd : L[k].ty.data = -1
  · have h1 := findV_var h hk
    have h2 := hI.2 _ (List.getElem_mem hk) hd
    have h3 : L[k] = ⟨n, ⟨-1, 0⟩⟩ := by
      cases hx : L[k] with | mk v t => cases t with | mk a b => rw [hx] at h1 h2 hd; simp only at h1 h2 hd; rw [h1, h2, hd]
    rw [dec_t (by rw [← h3]; exact List.getElem_mem hk), decide_eq_true hd]
  · rw [decide_eq_false hd]
    refine dec_f (fun hm => hd ?_)
    obtain ⟨j, hj, e⟩ := List.mem_iff_getElem.1 hm
    have h1 := hI.1.at_ hj
    rw [e] at h1
    simp only at h1
    have h2 : j = k := by omega
    subst h2
    rw [e]
set_option maxHeartbeats 3200000 in
theorem guard_spec (g0 g1 g2 : Int) (A : Option Addr) (L : List Vt) (cap : Nat) (w : World) (hr : RVts w w.heap.size A L) (hI : IntV L) :
    Calls Tryz.prog 198 #[.agg #[.int .i64 g0, .int .i64 g1, .int .i64 g2], .slice A L.length cap] w fun e w' => e = .returned (.bool (gdB g0 g1 g2 L)) ∧ Below w.heap.size w w' := by
  have Hr := Lib.hid hr
  have HI := Lib.hid hI
  clear hr hI
  generalize hw0 : w.alloc (.cells #[.int .i64 g0, .int .i64 g1, .int .i64 g2] 55) = w0
  have hb0 : Below w.heap.size w w0 := by rw [← hw0]; exact (Below.refl _ _).alloc (Nat.le_refl _) _
  have HX : Hid (GBx w0 w.heap.size g0 g1 g2) := by rw [← hw0]; exact ⟨by simp [go_sem], by simp [go_sem], by simp [go_sem]⟩
  have HW := Lib.hid hw0
  clear hw0
  by_cases h0 : g0 = 0
  · have u0 := ieq_t h0
    have HG : Hid (gdB g0 g1 g2 L = decide (g1 = 0 ∧ g2 = 0)) := gd_none h0
    clear h0
    by_cases h1 : g1 = 0
    · have u1 := ieq_t h1
      by_cases h2 : g2 = 0
      · have u2 := ieq_t h2
        have HG2 : Hid (gdB g0 g1 g2 L = true) := by unfold Hid; rw [HG.out]; exact decide_eq_true ⟨h1, h2⟩
        clear h1 h2
        obtain ⟨x0, x1, x2⟩ := HX.out
        go_enter Tryz.func198, Tryz.ntmps198
        go_wp2_with fail
        go_ret
        exact ⟨ret_bool HG2.out.symm, by rw [HW.out]; exact hb0⟩
      · have u2 := ieq_f h2
        have HG2 : Hid (gdB g0 g1 g2 L = false) := by unfold Hid; rw [HG.out]; exact decide_eq_false (fun h => h2 h.2)
        clear h1 h2
        obtain ⟨x0, x1, x2⟩ := HX.out
        go_enter Tryz.func198, Tryz.ntmps198
        go_wp2_with fail
        go_ret
        exact ⟨ret_bool HG2.out.symm, by rw [HW.out]; exact hb0⟩
    · have u1 := ieq_f h1
      have HG2 : Hid (gdB g0 g1 g2 L = false) := by unfold Hid; rw [HG.out]; exact decide_eq_false (fun h => h1 h.1)
      clear h1
      obtain ⟨x0, x1, x2⟩ := HX.out
      go_enter Tryz.func198, Tryz.ntmps198
      go_wp2_with fail
      go_ret
      exact ⟨ret_bool HG2.out.symm, by rw [HW.out]; exact hb0⟩
  · have u0 := ieq_f h0
    by_cases h1 : g0 = 1 ∨ g0 = 2
    · by_cases h2 : 0 ≤ g2
      · have q2 : decide (g2 < 0) = false := decide_eq_false (by omega)
        by_cases h3 : g2 ≤ 9
        · have q3 : decide (9 < g2) = false := decide_eq_false (by omega)
          have HG : Hid (gdB g0 g1 g2 L = dec ((⟨g1, ⟨-1, 0⟩⟩ : Vt) ∈ L)) := gd_yes h0 ⟨h1, h2, h3⟩
          have HF := Lib.hid (find_any A L cap g1 w0 (Hr.out.at_ hb0))
          rcases findV_cases L g1 with hf | ⟨k, hk, hf⟩
          · have HG2 : Hid (gdB g0 g1 g2 L = false) := by unfold Hid; rw [HG.out]; exact mem_no HI.out hf
            rw [hf] at HF
            clear hf
            by_cases h4 : g0 = 1
            · have u1 : (g0 != 1) = false := by simp [h4]
              clear h0 h1 h2 h3 h4
              obtain ⟨x0, x1, x2⟩ := HX.out
              go_enter Tryz.func198, Tryz.ntmps198
              go_wp2_with (go_at_call 239; (try rw [HW.out]); refine HF.out.mono ?_; rintro e1 w1 ⟨rfl, rfl⟩)
              go_ret
              exact ⟨ret_bool HG2.out.symm, hb0⟩
            · have u1 : (g0 != 1) = true := by simp [h4]
              have u2 : (g0 != 2) = false := by simp; omega
              clear h0 h1 h2 h3 h4
              obtain ⟨x0, x1, x2⟩ := HX.out
              go_enter Tryz.func198, Tryz.ntmps198
              go_wp2_with (go_at_call 239; (try rw [HW.out]); refine HF.out.mono ?_; rintro e1 w1 ⟨rfl, rfl⟩)
              go_ret
              exact ⟨ret_bool HG2.out.symm, hb0⟩
          · have HG2 : Hid (gdB g0 g1 g2 L = decide (L[k].ty.data = -1)) := by unfold Hid; rw [HG.out]; exact mem_at HI.out hk hf
            rw [hf] at HF
            obtain ⟨b, off, rfl, hbB, c0, c1, c2⟩ := (Hr.out.at_ hb0).2 k hk
            have hkI : (k : Int) < (L.length : Int) := by omega
            clear hf
            generalize L[k] = x at HG2 c0 c1 c2
            by_cases h4 : g0 = 1
            · have u1 : (g0 != 1) = false := by simp [h4]
              clear h0 h1 h2 h3 h4
              obtain ⟨x0, x1, x2⟩ := HX.out
              go_enter Tryz.func198, Tryz.ntmps198
              go_wp2_with (go_at_call 239; (try rw [HW.out]); refine HF.out.mono ?_; rintro e1 w1 ⟨rfl, rfl⟩)
              go_ret
              exact ⟨ret_bool (by rw [HG2.out]; try rfl), hb0⟩
            · have u1 : (g0 != 1) = true := by simp [h4]
              have u2 : (g0 != 2) = false := by simp; omega
              clear h0 h1 h2 h3 h4
              obtain ⟨x0, x1, x2⟩ := HX.out
              go_enter Tryz.func198, Tryz.ntmps198
              go_wp2_with (go_at_call 239; (try rw [HW.out]); refine HF.out.mono ?_; rintro e1 w1 ⟨rfl, rfl⟩)
              go_ret
              exact ⟨ret_bool (by rw [HG2.out]; try rfl), hb0⟩
        · have q3 : decide (9 < g2) = true := decide_eq_true (by omega)
          have HG2 : Hid (gdB g0 g1 g2 L = false) := gd_no h0 (fun h => h3 h.2.2)
          by_cases h4 : g0 = 1
          · have u1 : (g0 != 1) = false := by simp [h4]
            clear h0 h1 h2 h3 h4
            obtain ⟨x0, x1, x2⟩ := HX.out
            go_enter Tryz.func198, Tryz.ntmps198
            go_wp2_with fail
            go_ret
            exact ⟨ret_bool HG2.out.symm, by rw [HW.out]; exact hb0⟩
          · have u1 : (g0 != 1) = true := by simp [h4]
            have u2 : (g0 != 2) = false := by simp; omega
            clear h0 h1 h2 h3 h4
            obtain ⟨x0, x1, x2⟩ := HX.out
            go_enter Tryz.func198, Tryz.ntmps198
            go_wp2_with fail
            go_ret
            exact ⟨ret_bool HG2.out.symm, by rw [HW.out]; exact hb0⟩
      · have q2 : decide (g2 < 0) = true := decide_eq_true (by omega)
        have HG2 : Hid (gdB g0 g1 g2 L = false) := gd_no h0 (fun h => h2 h.2.1)
        by_cases h4 : g0 = 1
        · have u1 : (g0 != 1) = false := by simp [h4]
          clear h0 h1 h2 h4
          obtain ⟨x0, x1, x2⟩ := HX.out
          go_enter Tryz.func198, Tryz.ntmps198
          go_wp2_with fail
          go_ret
          exact ⟨ret_bool HG2.out.symm, by rw [HW.out]; exact hb0⟩
        · have u1 : (g0 != 1) = true := by simp [h4]
          have u2 : (g0 != 2) = false := by simp; omega
          clear h0 h1 h2 h4
          obtain ⟨x0, x1, x2⟩ := HX.out
          go_enter Tryz.func198, Tryz.ntmps198
          go_wp2_with fail
          go_ret
          exact ⟨ret_bool HG2.out.symm, by rw [HW.out]; exact hb0⟩
    · have HG2 : Hid (gdB g0 g1 g2 L = false) := gd_no h0 (fun h => h1 h.1)
      have u1 : (g0 != 1) = true := by simp; omega
      have u2 : (g0 != 2) = true := by simp; omega
      clear h0 h1
      obtain ⟨x0, x1, x2⟩ := HX.out
      go_enter Tryz.func198, Tryz.ntmps198
      go_wp2_with fail
      go_ret
      exact ⟨ret_bool HG2.out.symm, by rw [HW.out]; exact hb0⟩
end Go.Proofs.YthdnfnmglhifmaaGreat
/-
  ClauseValid of the program and of the document. No statement is proved here.
-/
namespace Go.Proofs.YthdnfnmglhifmaaGreat
open Go.RowKit Go.Sort Go.Deep
set_option maxRecDepth 100000
set_option linter.unusedVariables false
def CBx (w : World) (b : Nat) (p : Pt) (s : Value) (g0 g1 g2 : Int) : Prop := PBx w b p s ∧ w.cell? ⟨b, 6, none⟩ = some (.int .i64 g0) ∧ w.cell? ⟨b, 7, none⟩ = some (.int .i64 g1) ∧ w.cell? ⟨b, 8, none⟩ = some (.int .i64 g2)
theorem CBx.keep {w w' : World} {b : Nat} {p : Pt} {s : Value} {g0 g1 g2 : Int} (h : CBx w b p s g0 g1 g2) (hk : w'.heap[b]? = w.heap[b]?) : CBx w' b p s g0 g1 g2 :=
  ⟨h.1.keep hk, (World.cell?_of_block (a := ⟨b, 6, none⟩) hk).trans h.2.1, (World.cell?_of_block (a := ⟨b, 7, none⟩) hk).trans h.2.2.1, (World.cell?_of_block (a := ⟨b, 8, none⟩) hk).trans h.2.2.2⟩
theorem CBx.at_ {w w' : World} {b : Nat} {p : Pt} {s : Value} {g0 g1 g2 : Int} (h : CBx w b p s g0 g1 g2) (hb : Below w.heap.size w w') : CBx w' b p s g0 g1 g2 := h.keep (hb.block b (Go.block_lt_of_cell h.1.1))
noncomputable def cvI (l : List Da) (t : Ty) (p : Pt) (g0 g1 g2 : Int) : Bool := isP l t p && gdB g0 g1 g2 (vrP l 10 t p)
noncomputable def cvT (l : List Da) (t : Ty) (p : Pt) (g0 g1 g2 : Int) : Bool := pvT l t p && gdB g0 g1 g2 (vrP l 10 t p)
section
variable {l : List Da} {t : Ty} {p : Pt} {g0 g1 g2 : Int}
theorem cvT_ty (h : TyOK l t) : cvT l t p g0 g1 g2 = cvI l t p g0 g1 g2 := by unfold cvT cvI; rw [pvT_yes h]
theorem isP_parts (h : isP l t p = true) : shP l 10 t p = true ∧ 1 + wP p ≤ 60 ∧ linP l 10 t p = true := by
  unfold isP at h
  rw [Bool.and_eq_true, Bool.and_eq_true] at h
  exact ⟨h.1, of_decide_eq_true h.2.1, h.2.2⟩
theorem isP_int (ht : TyOK l t) (h : isP l t p = true) : IntV (vrP l 10 t p) := by
  obtain ⟨h1, _, h3⟩ := isP_parts h
  exact ⟨lin_once h1 h3, fun x hx hd => ty_int (vrP_tys ht h1 x hx) hd⟩
end
theorem slice_inj {A B : Option Addr} {n m c d : Nat} (h : Value.slice A n c = .slice B m d) : B = A ∧ m = n ∧ d = c := by
  injection h with h1 h2 h3
  exact ⟨h1.symm, h2.symm, h3.symm⟩
set_option maxHeartbeats 3200000 in
theorem l4Is_any (A D : Option Addr) (l : List Da) (cap ep e : Nat) (t : Ty) (p : Pt) (g0 g1 g2 : Int) (w : World) (hr : RDas w w.heap.size A l) (hv : RPs e w w.heap.size D p.kids) (hn : wP p ≤ 1048576) (ht : TyOK l t) :
    Calls Tryz.prog 132 #[.slice A l.length cap, .agg #[.int .i64 t.data, .int .i64 t.index], .agg #[.int .i64 p.op, .int .i64 p.ctor, .int .i64 p.n, .int .i64 p.m, .int .i64 p.var, .slice D p.kids.length ep, .int .i64 g0, .int .i64 g1, .int .i64 g2]] w fun e w' => e = .returned (.bool (cvI l t p g0 g1 g2)) ∧ Below w.heap.size w w' := by
  have Hr := Lib.hid hr
  have HV := Lib.hid hv
  clear hr hv
  generalize hw0 : (w.alloc (.cells #[.int .i64 t.data, .int .i64 t.index] 25)).alloc (.cells #[.int .i64 p.op, .int .i64 p.ctor, .int .i64 p.n, .int .i64 p.m, .int .i64 p.var, .slice D p.kids.length ep, .int .i64 g0, .int .i64 g1, .int .i64 g2] 57) = w0
  have hb0 : Below w.heap.size w w0 := by rw [← hw0]; exact ((Below.refl _ _).alloc (Nat.le_refl _) _).alloc (by simp) _
  have HXT : Hid (Bx w0 w.heap.size t) := by rw [← hw0]; exact ⟨by simp [go_sem], by simp [go_sem]⟩
  have HXC : Hid (CBx w0 (w.heap.size + 1) p (.slice D p.kids.length ep) g0 g1 g2) := by rw [← hw0]; exact ⟨⟨by simp [go_sem], by simp [go_sem], by simp [go_sem], by simp [go_sem], by simp [go_sem], by simp [go_sem]⟩, by simp [go_sem], by simp [go_sem], by simp [go_sem]⟩
  have HW := Lib.hid hw0
  clear hw0
  have HT := Lib.hid ht
  clear ht
  have HKS : Hid (∀ w', Below w0.heap.size w0 w' → w'.cell? ⟨w.heap.size, 0, none⟩ = some (.int .i64 t.data) ∧ w'.cell? ⟨w.heap.size, 1, none⟩ = some (.int .i64 t.index) ∧ w'.cell? ⟨w.heap.size + 1, 0, none⟩ = some (.int .i64 p.op) ∧ w'.cell? ⟨w.heap.size + 1, 1, none⟩ = some (.int .i64 p.ctor) ∧ w'.cell? ⟨w.heap.size + 1, 2, none⟩ = some (.int .i64 p.n) ∧ w'.cell? ⟨w.heap.size + 1, 3, none⟩ = some (.int .i64 p.m) ∧ w'.cell? ⟨w.heap.size + 1, 4, none⟩ = some (.int .i64 p.var) ∧ w'.cell? ⟨w.heap.size + 1, 5, none⟩ = some (.slice D p.kids.length ep) ∧ w'.cell? ⟨w.heap.size + 1, 6, none⟩ = some (.int .i64 g0) ∧ w'.cell? ⟨w.heap.size + 1, 7, none⟩ = some (.int .i64 g1) ∧ w'.cell? ⟨w.heap.size + 1, 8, none⟩ = some (.int .i64 g2)) := fun w' h => by
    obtain ⟨a, b⟩ := HXT.out.at_ h
    obtain ⟨⟨y0, y1, y2, y3, y4, y5⟩, y6, y7, y8⟩ := HXC.out.at_ h
    exact ⟨a, b, y0, y1, y2, y3, y4, y5, y6, y7, y8⟩
  by_cases hf : isP l t p = true
  · have HF := Lib.hid hf
    have HIV := Lib.hid (isP_int HT.out hf)
    have HPT := Lib.hid (isP_parts hf)
    have HG : Hid (cvI l t p g0 g1 g2 = gdB g0 g1 g2 (vrP l 10 t p)) := by unfold Hid cvI; rw [hf]; rfl
    have SQ := HKS.out w0.drew (Below.refl _ w0).drew
    clear hf
    go_enter Tryz.func132, Tryz.ntmps132
    go_wp2_with fail
    rw [HW.out]
    go_region_held3 (fun w' => w'.cell? ⟨w.heap.size, 0, none⟩ = some (.int .i64 t.data) ∧ w'.cell? ⟨w.heap.size, 1, none⟩ = some (.int .i64 t.index) ∧ w'.cell? ⟨w.heap.size + 1, 0, none⟩ = some (.int .i64 p.op) ∧ w'.cell? ⟨w.heap.size + 1, 1, none⟩ = some (.int .i64 p.ctor) ∧ w'.cell? ⟨w.heap.size + 1, 2, none⟩ = some (.int .i64 p.n) ∧ w'.cell? ⟨w.heap.size + 1, 3, none⟩ = some (.int .i64 p.m) ∧ w'.cell? ⟨w.heap.size + 1, 4, none⟩ = some (.int .i64 p.var) ∧ w'.cell? ⟨w.heap.size + 1, 5, none⟩ = some (.slice D p.kids.length ep) ∧ w'.cell? ⟨w.heap.size + 1, 6, none⟩ = some (.int .i64 g0) ∧ w'.cell? ⟨w.heap.size + 1, 7, none⟩ = some (.int .i64 g1) ∧ w'.cell? ⟨w.heap.size + 1, 8, none⟩ = some (.int .i64 g2)) (with_reducible exact SQ) (first | (go_at_call 122; (with_reducible refine (isP_any A D l cap ep e t p w0.drew (Hr.out.at_ hb0.drew) HT.out (HV.out.at_ hb0.drew) hn).mono ?_); rw [HF.out]; rintro e1 w1 ⟨rfl, hb'⟩; have hbq : Below w0.heap.size w0 w1 := ⟨hb'.os, hb'.tape, hb'.output, hb'.size, hb'.block⟩; have SQ := HKS.out _ hbq; clear hb') | (go_at_call 199; (with_reducible refine (vars_new l 10 A D cap ep e t p w1 (Hr.out.at_ (below_aft hb0 hbq hb0.size)) HT.out (HV.out.at_ (below_aft hb0 hbq hb0.size)) HPT.out.1 (by have := HPT.out.2.1; omega)).mono ?_); rintro e2 w2 ⟨A2, c2, rfl, hr2, hb'⟩; have hbq := below_aft hbq hb' hbq.size; have SQ := HKS.out _ hbq; have HR2 := Lib.hid hr2; clear hr2 hb') | (go_at_call 198; (with_reducible refine (guard_spec g0 g1 g2 A2 _ c2 w2 HR2.out HIV.out).mono ?_); rintro e3 w3 ⟨rfl, hb'⟩; have hbq := below_aft hbq hb' hbq.size; have SQ := HKS.out _ hbq; clear hb'))
    go_wp2_with fail
    go_ret
    exact ⟨ret_bool HG.out.symm, below_aft hb0 hbq hb0.size⟩
  · have hf' : isP l t p = false := by simpa using hf
    have HF := Lib.hid hf'
    have HG : Hid (cvI l t p g0 g1 g2 = false) := by unfold Hid cvI; rw [hf']; rfl
    clear hf hf'
    have HC : Hid (∀ dq osq, Calls Tryz.prog 122 #[.slice A l.length cap, .agg #[.int .i64 t.data, .int .i64 t.index], .agg #[.int .i64 p.op, .int .i64 p.ctor, .int .i64 p.n, .int .i64 p.m, .int .i64 p.var, .slice D p.kids.length ep]] (grow (redrawn w0 dq) osq) fun e' w' => e' = .returned (.bool false) ∧ Below (grow (redrawn w0 dq) osq).heap.size (grow (redrawn w0 dq) osq) w') := fun dq osq => by
      have h1 := isP_any A D l cap ep e t p (grow (redrawn w0 dq) osq) ((Hr.out.at_ hb0).at_ (below_regrown w0 dq osq)) HT.out ((HV.out.at_ hb0).at_ (below_regrown w0 dq osq)) hn
      rw [HF.out] at h1
      exact h1
    obtain ⟨x0, x1⟩ := HXT.out
    obtain ⟨⟨y0, y1, y2, y3, y4, y5⟩, y6, y7, y8⟩ := HXC.out
    have d0 := cell_regrown x0
    have d1 := cell_regrown x1
    have d2 := cell_regrown y0
    have d3 := cell_regrown y1
    have d4 := cell_regrown y2
    have d5 := cell_regrown y3
    have d6 := cell_regrown y4
    have d7 := cell_regrown y5
    clear x0 x1 y0 y1 y2 y3 y4 y5 y6 y7 y8
    go_enter Tryz.func132, Tryz.ntmps132
    go_wp2_with fail
    rw [HW.out]
    refine wp_region_quiet_below (by kernel_rfl) (by kernel_rfl) ?_
    repeat (quiet_step (exact Calls.regrown_of (HC.out _ _)))
    refine wpQuiet_nil ?_
    intro _ hw'
    obtain ⟨⟨dq, osq⟩, hw''⟩ := hw'
    subst hw''
    have hb2 := below_aft hb0 (below_regrown w0 dq osq) hb0.size
    clear d0 d1 d2 d3 d4 d5 d6 d7
    go_wp2_with fail
    go_ret
    exact ⟨ret_bool HG.out.symm, hb2⟩
end Go.Proofs.YthdnfnmglhifmaaGreat
/-
  ClauseValid of the program. No statement is proved here.
-/
namespace Go.Proofs.YthdnfnmglhifmaaGreat
open Go.RowKit Go.Sort Go.Deep
set_option maxRecDepth 100000
set_option linter.unusedVariables false
set_option maxHeartbeats 1600000 in
theorem cv_impl (A D : Option Addr) (l : List Da) (cap ep e : Nat) (t : Ty) (p : Pt) (g0 g1 g2 : Int) (w : World) (hr : RDas w w.heap.size A l) (hv : RPs e w w.heap.size D p.kids) :
    Calls Tryz.prog 78 #[.slice A l.length cap, .agg #[.int .i64 t.data, .int .i64 t.index], .agg #[.int .i64 p.op, .int .i64 p.ctor, .int .i64 p.n, .int .i64 p.m, .int .i64 p.var, .slice D p.kids.length ep, .int .i64 g0, .int .i64 g1, .int .i64 g2]] w fun e w' => e = .returned (.bool (cvT l t p g0 g1 g2)) ∧ Below w.heap.size w w' := by
  have Hr := Lib.hid hr
  have HV := Lib.hid hv
  clear hr hv
  generalize hw0 : (w.alloc (.cells #[.int .i64 t.data, .int .i64 t.index] 25)).alloc (.cells #[.int .i64 p.op, .int .i64 p.ctor, .int .i64 p.n, .int .i64 p.m, .int .i64 p.var, .slice D p.kids.length ep, .int .i64 g0, .int .i64 g1, .int .i64 g2] 57) = w0
  have hb0 : Below w.heap.size w w0 := by rw [← hw0]; exact ((Below.refl _ _).alloc (Nat.le_refl _) _).alloc (by simp) _
  have HXT : Hid (Bx w0 w.heap.size t) := by rw [← hw0]; exact ⟨by simp [go_sem], by simp [go_sem]⟩
  have HXC : Hid (CBx w0 (w.heap.size + 1) p (.slice D p.kids.length ep) g0 g1 g2) := by rw [← hw0]; exact ⟨⟨by simp [go_sem], by simp [go_sem], by simp [go_sem], by simp [go_sem], by simp [go_sem], by simp [go_sem]⟩, by simp [go_sem], by simp [go_sem], by simp [go_sem]⟩
  have HW := Lib.hid hw0
  clear hw0
  have HC := Lib.hid (check_any A D l cap ep e t p w0 (Hr.out.at_ hb0) (HV.out.at_ hb0))
  obtain ⟨x0, x1⟩ := HXT.out
  obtain ⟨⟨y0, y1, y2, y3, y4, y5⟩, y6, y7, y8⟩ := HXC.out
  by_cases hf : pvT l t p = true
  · have HC2 := Lib.hid (ChQ.known hf HC.out)
    have hsh := pvT_sh hf
    have hlm : (vrP l 10 t p).length ≤ maxLen := by have := vrP_len l 10 t p hsh.1; have := hsh.2; unfold maxLen; omega
    have HG : Hid (cvT l t p g0 g1 g2 = gdB g0 g1 g2 (vrP l 10 t p)) := by unfold Hid cvT; rw [hf]; rfl
    have HLM := Lib.hid hlm
    clear hf hsh hlm
    go_enter Tryz.func78, Tryz.ntmps78
    go_wp2_with (first | (go_at_call 64; (try rw [HW.out]); go_loud (refine HC2.out.mono ?_; rintro e1 w1 ⟨A1, n1, c1, rfl, hy1, hb1⟩); obtain ⟨A1', c1', e1', hr1⟩ := (hy1 rfl).form HLM.out; obtain ⟨rfl, rfl, rfl⟩ := slice_inj e1'; have HR1 := Lib.hid hr1; clear hy1 hr1 e1'; obtain ⟨z0, z1⟩ := HXT.out.at_ hb1; obtain ⟨⟨q0, q1, q2, q3, q4, q5⟩, q6, q7, q8⟩ := HXC.out.at_ hb1; have hb1w := below_aft hb0 hb1 hb0.size) | (go_at_call 134; refine (guard_impl g0 g1 g2 A1' (vrP l 10 t p) c1' w1 HR1.out).mono ?_; rintro e2 w2 ⟨rfl, hb2⟩))
    go_ret
    exact ⟨ret_bool HG.out.symm, below_aft hb1w hb2 hb1w.size⟩
  · have hf' : pvT l t p = false := by simpa using hf
    have HC2 := Lib.hid (ChQ.known hf' HC.out)
    have HG : Hid (cvT l t p g0 g1 g2 = false) := by unfold Hid cvT; rw [hf']; rfl
    clear hf hf'
    go_enter Tryz.func78, Tryz.ntmps78
    go_wp2_with (go_at_call 64; (try rw [HW.out]); refine HC2.out.mono ?_; rintro e1 w1 ⟨A1, n1, c1, rfl, hy1, hb1⟩; clear hy1; obtain ⟨z0, z1⟩ := HXT.out.at_ hb1; have hb1w := below_aft hb0 hb1 hb0.size)
    go_ret
    exact ⟨ret_bool HG.out.symm, hb1w⟩
end Go.Proofs.YthdnfnmglhifmaaGreat
