/-
  When a guard is right for the variables of a pattern: both functions. No statement is proved here.
-/
import Derived.Test.YteoopmogklpnoaaT39
namespace Go.Proofs.Yteoopmogklpnoaa
open Go.RowKit Go.Sort Go.Deep
set_option maxRecDepth 100000
set_option linter.unusedVariables false
theorem cond_any (g0 g1 g2 : Int) (w : World) : Calls Try.prog 79 #[.agg #[.int .i64 g0, .int .i64 g1, .int .i64 g2]] w fun e w' => ∃ v, e = .returned (.tuple #[v, .bool (decide (g0 = 1 ∨ g0 = 2))]) ∧ Below w.heap.size w w' := by
  by_cases h1 : g0 = 1
  · have u1 := ieq_t h1
    have HD : Hid (decide (g0 = 1 ∨ g0 = 2) = true) := decide_eq_true (.inl h1)
    have HQ : Hid (∀ v w', Below w.heap.size w w' → ∃ v', Ending.returned (.tuple #[v, .bool true]) = .returned (.tuple #[v', .bool (decide (g0 = 1 ∨ g0 = 2))]) ∧ Below w.heap.size w w') := fun v w' hb => ⟨v, by rw [HD.out], hb⟩
    clear h1
    go_enter Try.func79, Try.ntmps79
    go_wp2_with fail
    go_ret2
    exact HQ.out _ _ ((Below.refl _ _).alloc (Nat.le_refl _) _)
  · have u1 := ieq_f h1
    by_cases h2 : g0 = 2
    · have u2 := ieq_t h2
      have HD : Hid (decide (g0 = 1 ∨ g0 = 2) = true) := decide_eq_true (.inr h2)
      have HQ : Hid (∀ v w', Below w.heap.size w w' → ∃ v', Ending.returned (.tuple #[v, .bool true]) = .returned (.tuple #[v', .bool (decide (g0 = 1 ∨ g0 = 2))]) ∧ Below w.heap.size w w') := fun v w' hb => ⟨v, by rw [HD.out], hb⟩
      clear h1 h2
      go_enter Try.func79, Try.ntmps79
      go_wp2_with fail
      go_ret2
      exact HQ.out _ _ ((Below.refl _ _).alloc (Nat.le_refl _) _)
    · have u2 := ieq_f h2
      have HD : Hid (decide (g0 = 1 ∨ g0 = 2) = false) := decide_eq_false (by omega)
      have HQ : Hid (∀ v w', Below w.heap.size w w' → ∃ v', Ending.returned (.tuple #[v, .bool false]) = .returned (.tuple #[v', .bool (decide (g0 = 1 ∨ g0 = 2))]) ∧ Below w.heap.size w w') := fun v w' hb => ⟨v, by rw [HD.out], hb⟩
      clear h1 h2
      go_enter Try.func79, Try.ntmps79
      go_wp2_with fail
      go_ret2
      exact HQ.out _ _ ((Below.refl _ _).alloc (Nat.le_refl _) _)
def GBx (w : World) (b : Nat) (g0 g1 g2 : Int) : Prop := w.cell? ⟨b, 0, none⟩ = some (.int .i64 g0) ∧ w.cell? ⟨b, 1, none⟩ = some (.int .i64 g1) ∧ w.cell? ⟨b, 2, none⟩ = some (.int .i64 g2)
theorem GBx.at_ {w w' : World} {b : Nat} {g0 g1 g2 : Int} (h : GBx w b g0 g1 g2) (hb : Below w.heap.size w w') : GBx w' b g0 g1 g2 := by
  have hk := hb.block b (Go.block_lt_of_cell h.1)
  exact ⟨(World.cell?_of_block (a := ⟨b, 0, none⟩) hk).trans h.1, (World.cell?_of_block (a := ⟨b, 1, none⟩) hk).trans h.2.1, (World.cell?_of_block (a := ⟨b, 2, none⟩) hk).trans h.2.2⟩
end Go.Proofs.Yteoopmogklpnoaa
/-
  Whether a guard holds: what the document asks, and the search of a variable. No statement is proved here.
-/
namespace Go.Proofs.Yteoopmogklpnoaa
open Go.RowKit Go.Sort Go.Deep
set_option maxRecDepth 100000
set_option linter.unusedVariables false
def okB (g0 g2 : Int) (v : Vl) : Bool := decide (v.ctor = -1) && (decide (g0 = 1 ∧ v.n < g2) || decide (g0 = 2 ∧ v.n = g2))
def fndB (g0 g1 g2 : Int) : List Bn → Bool
  | [] => false
  | b :: l => if b.var = g1 then okB g0 g2 b.val else fndB g0 g1 g2 l
def ghB (g0 g1 g2 : Int) (l : List Bn) : Bool := if g0 = 0 then true else fndB g0 g1 g2 l
def NoB (l : List Bn) (g1 : Int) (k : Nat) : Prop := ∀ j (h : j < l.length), j < k → ¬ l[j].var = g1
theorem NoB.zero (l : List Bn) (g1 : Int) : NoB l g1 0 := fun j _ h => absurd h (by omega)
theorem NoB.step {l : List Bn} {g1 : Int} {k : Nat} (h : NoB l g1 k) (hk : k < l.length) (e : ¬ l[k].var = g1) : NoB l g1 (k + 1) := by
  intro j hj hjk
  by_cases e' : j = k
  · subst e'; exact e
  · exact h j hj (by omega)
section
variable {g0 g1 g2 : Int}
theorem fnd_none : ∀ {l : List Bn}, NoB l g1 l.length → fndB g0 g1 g2 l = false
  | [], _ => rfl
  | b :: l, h => by
    unfold fndB
    have h0 : ¬ b.var = g1 := h 0 (by simp) (by simp)
    rw [if_neg h0]
    exact fnd_none (fun j hj hjk => h (j + 1) (by simpa using hj) (by simpa using hj))
theorem fnd_at : ∀ {l : List Bn} {k : Nat} (hk : k < l.length), NoB l g1 k → l[k].var = g1 → fndB g0 g1 g2 l = okB g0 g2 l[k].val
  | [], _, hk, _, _ => absurd hk (by simp)
  | b :: l, 0, _, _, e => by
    unfold fndB
    have e' : b.var = g1 := e
    rw [if_pos e']; rfl
  | b :: l, k + 1, hk, h, e => by
    unfold fndB
    have h0 : ¬ b.var = g1 := h 0 (by simp) (by omega)
    rw [if_neg h0]
    exact fnd_at (l := l) (k := k) (by simpa using hk) (fun j hj hjk => h (j + 1) (by simpa using hj) (by omega)) e
theorem ok_unk {v : Vl} (h : ¬ (g0 = 1 ∨ g0 = 2)) : okB g0 g2 v = false := by
  unfold okB
  have a : decide (g0 = 1 ∧ v.n < g2) = false := decide_eq_false (fun h' => h (.inl h'.1))
  have b : decide (g0 = 2 ∧ v.n = g2) = false := decide_eq_false (fun h' => h (.inr h'.1))
  rw [a, b]; simp
theorem fnd_unk (h : ¬ (g0 = 1 ∨ g0 = 2)) : ∀ {l : List Bn}, fndB g0 g1 g2 l = false
  | [] => rfl
  | b :: l => by
    unfold fndB
    rw [ok_unk h, fnd_unk h]; simp
theorem ok_ctor {v : Vl} (h : ¬ v.ctor = -1) : okB g0 g2 v = false := by unfold okB; rw [decide_eq_false h]; rfl
theorem ok_less {v : Vl} (h : v.ctor = -1) (h1 : g0 = 1) : okB g0 g2 v = decide (v.n < g2) := by
  subst h1; unfold okB
  have b : decide ((1 : Int) = 2 ∧ v.n = g2) = false := decide_eq_false (fun h' => absurd h'.1 (by decide))
  rw [decide_eq_true h, b]; simp
theorem ok_equal {v : Vl} (h : v.ctor = -1) (h1 : g0 = 2) : okB g0 g2 v = decide (v.n = g2) := by
  subst h1; unfold okB
  have b : decide ((2 : Int) = 1 ∧ v.n < g2) = false := decide_eq_false (fun h' => absurd h'.1 (by decide))
  rw [decide_eq_true h, b]; simp
end
def FndR (l : List Bn) (g1 r : Int) : Prop := (r = -1 ∧ NoB l g1 l.length) ∨ ∃ k : Nat, ∃ h : k < l.length, r = k ∧ l[k].var = g1 ∧ NoB l g1 k
theorem cond_lt (g1 g2 : Int) (w : World) : Calls Try.prog 79 #[.agg #[.int .i64 1, .int .i64 g1, .int .i64 g2]] w fun e w' => e = .returned (.tuple #[.iface 170 (.int .i64 g2), .bool true]) ∧ Below w.heap.size w w' := by
  go_enter Try.func79, Try.ntmps79
  go_wp2_with fail
  go_ret2
  exact ⟨rfl, (Below.refl _ _).alloc (Nat.le_refl _) _⟩
theorem cond_eq (g1 g2 : Int) (w : World) : Calls Try.prog 79 #[.agg #[.int .i64 2, .int .i64 g1, .int .i64 g2]] w fun e w' => e = .returned (.tuple #[.iface 171 (.int .i64 g2), .bool true]) ∧ Below w.heap.size w w' := by
  go_enter Try.func79, Try.ntmps79
  go_wp2_with fail
  go_ret2
  exact ⟨rfl, (Below.refl _ _).alloc (Nat.le_refl _) _⟩
theorem holds_lt (g2 n : Int) (w : World) : Calls Try.prog 179 #[.int .i64 g2, .int .i64 n] w fun e w' => e = .returned (.bool (decide (n < g2))) ∧ w' = w := by
  go_enter Try.func179, Try.ntmps179
  go_wp2_with fail
  go_ret
  exact ⟨rfl, rfl⟩
theorem holds_eq (g2 n : Int) (w : World) : Calls Try.prog 181 #[.int .i64 g2, .int .i64 n] w fun e w' => e = .returned (.bool (decide (n = g2))) ∧ w' = w := by
  by_cases h : n = g2
  · have u := ieq_t h
    have HD : Hid (decide (n = g2) = true) := decide_eq_true h
    clear h
    go_enter Try.func181, Try.ntmps181
    go_wp2_with fail
    go_ret
    exact ⟨ret_bool HD.out.symm, rfl⟩
  · have u := ieq_f h
    have HD : Hid (decide (n = g2) = false) := decide_eq_false h
    clear h
    go_enter Try.func181, Try.ntmps181
    go_wp2_with fail
    go_ret
    exact ⟨ret_bool HD.out.symm, rfl⟩
theorem isG_any (pb : Nat) (A : Option Addr) (l : List Vl) (cap : Nat) (x c n g1 : Int) (w : World) (hp : w.cell? ⟨pb, 1, none⟩ = some (.int .i64 g1)) :
    Calls Try.prog 78 #[.agg #[.int .i64 x, .int .i64 c, .int .i64 n, .slice A l.length cap], .pointer (some ⟨pb, 0, none⟩)] w fun e w' => e = .returned (.bool (decide (x = g1))) ∧ Below w.heap.size w w' := by
  have hpl : pb < w.heap.size := Go.block_lt_of_cell hp
  have hpA : (w.alloc (.cells #[.int .i64 x, .int .i64 c, .int .i64 n, .slice A l.length cap] 69)).cell? ⟨pb, 1, none⟩ = some (.int .i64 g1) := by rw [World.cell?_alloc_lt _ _ _ hpl]; exact hp
  by_cases h : x = g1
  · have u := ieq_t h
    have HD : Hid (decide (x = g1) = true) := decide_eq_true h
    clear h hp
    go_enter Try.func78, Try.ntmps78
    go_wp2_with fail
    go_ret
    exact ⟨ret_bool HD.out.symm, (Below.refl _ _).alloc (Nat.le_refl _) _⟩
  · have u := ieq_f h
    have HD : Hid (decide (x = g1) = false) := decide_eq_false h
    clear h hp
    go_enter Try.func78, Try.ntmps78
    go_wp2_with fail
    go_ret
    exact ⟨ret_bool HD.out.symm, (Below.refl _ _).alloc (Nat.le_refl _) _⟩
set_option maxHeartbeats 1600000 in
theorem indexG_any (d pb : Nat) (A : Option Addr) (l : List Bn) (cap : Nat) (g1 : Int) (w : World) (hr : RBs d w w.heap.size A l) (hp : w.cell? ⟨pb, 1, none⟩ = some (.int .i64 g1)) :
    Calls Try.prog 80 #[.slice A l.length cap, .func (.func 78) #[] #[.pointer (some ⟨pb, 0, none⟩)]] w fun e w' => ∃ r : Int, e = .returned (.int .i64 r) ∧ FndR l g1 r ∧ Below w.heap.size w w' := by
  have hn := hr.1
  unfold maxLen at hn
  have Hr := Lib.hid hr
  have HP := Lib.hid hp
  have hpl : pb < w.heap.size := Go.block_lt_of_cell hp
  clear hr hp
  go_enter Try.func80, Try.ntmps80
  go_wp2_with fail
  go_loopw [8] (fun i wr => ∃ k : Nat, k ≤ l.length ∧ i = .int .i64 k ∧ NoB l g1 k ∧ Below w.heap.size w wr) (fun i _ => l.length - (intOf i).toNat)
  case atStart => exact ⟨0, by omega, rfl, NoB.zero _ _, Below.refl _ _⟩
  case round =>
    obtain ⟨k, hk, rfl, hno, hb⟩ := hrel
    by_cases hlt : k < l.length
    · obtain ⟨g, off, rfl, hbB, A', cp, c0, c1, c2, c3, hm⟩ := (Hr.out.below hb (Nat.le_refl _)).2 k hlt
      have hkI : (k : Int) < (l.length : Int) := by omega
      have HIS := Lib.hid (isG_any pb A' l[k].val.kids cp l[k].var l[k].val.ctor l[k].val.n g1 wr ((hb.cell (p := ⟨pb, 1, none⟩) hpl).trans HP.out))
      clear hm
      by_cases hs : l[k].var = g1
      · have HC : Hid (decide (l[k].var = g1) = true) := decide_eq_true hs
        have HT : Hid (FndR l g1 (k : Int)) := .inr ⟨k, hlt, rfl, hs, hno⟩
        clear hs hno
        go_wp2_with fail
        refine HIS.out.mono ?_
        rw [HC.out]
        rintro e w1 ⟨rfl, hb1⟩
        have hb2 := hb.trans (hb1.mono hb.size)
        go_wp2_with fail
        go_ret
        exact ⟨_, rfl, HT.out, hb2⟩
      · have HC : Hid (decide (l[k].var = g1) = false) := decide_eq_false hs
        have HN := Lib.hid (hno.step hlt hs)
        clear hs hno
        go_wp2_with fail
        refine HIS.out.mono ?_
        rw [HC.out]
        rintro e w1 ⟨rfl, hb1⟩
        have hb2 := hb.trans (hb1.mono hb.size)
        go_wp2_with fail
        go_roundw
        case rel => exact ⟨k + 1, by omega, by go_num, HN.out, hb2⟩
        case measure => simp [intOf]; omega
    · have HT : Hid (FndR l g1 (-1)) := .inl ⟨rfl, fun j hj hjk => hno j hj (by omega)⟩
      clear hno
      go_wp2_with fail
      go_ret
      exact ⟨_, rfl, HT.out, hb⟩
end Go.Proofs.Yteoopmogklpnoaa
/-
  GuardHolds of the program. No statement is proved here.
-/
namespace Go.Proofs.Yteoopmogklpnoaa
open Go.RowKit Go.Sort Go.Deep
set_option maxRecDepth 100000
set_option linter.unusedVariables false
set_option maxHeartbeats 1600000 in
theorem gh_lt (d : Nat) (A : Option Addr) (l : List Bn) (cap : Nat) (g1 g2 : Int) (w : World) (hr : RBs d w w.heap.size A l) :
    Calls Try.prog 38 #[.agg #[.int .i64 1, .int .i64 g1, .int .i64 g2], .slice A l.length cap] w fun e w' => e = .returned (.bool (fndB 1 g1 g2 l)) ∧ Below w.heap.size w w' := by
  have Hr := Lib.hid hr
  clear hr
  generalize hw0 : w.alloc (.cells #[.int .i64 1, .int .i64 g1, .int .i64 g2] 63) = w0
  have hb0 : Below w.heap.size w w0 := by rw [← hw0]; exact (Below.refl _ _).alloc (Nat.le_refl _) _
  have HX : Hid (GBx w0 w.heap.size 1 g1 g2) := by rw [← hw0]; exact ⟨by simp [go_sem], by simp [go_sem], by simp [go_sem]⟩
  have HW := Lib.hid hw0
  clear hw0
  obtain ⟨x0, x1, x2⟩ := HX.out
  have hn := Hr.out.1
  unfold maxLen at hn
  have HC := Lib.hid (cond_lt g1 g2 w0)
  have hm0 : ∀ w, (method 333 170 (.int .i64 g2) "loop.example/matchcompiler/impl.holdsFor").run Try.prog w = .ok (179, .int .i64 g2) w := fun w => by kernel_rfl
  go_enter Try.func38, Try.ntmps38
  go_wp2_with (go_at_call 79; (try rw [HW.out]); refine HC.out.mono ?_; rintro e1 w1 ⟨rfl, hb1⟩; obtain ⟨y0, y1, y2⟩ := HX.out.at_ hb1; have hb1w := below_aft hb0 hb1 hb0.size)
  refine (indexG_any d w.heap.size A l cap g1 _ (Hr.out.at_ hb1w) y1).mono ?_
  rintro e2 w2 ⟨r, rfl, hf, hb2⟩
  have hb2w := below_aft hb1w hb2 hb1w.size
  obtain ⟨z0, z1, z2⟩ := (HX.out.at_ hb1).at_ hb2
  clear x0 x1 x2 y0 y1 y2
  rcases hf with ⟨rfl, hno⟩ | ⟨k, hk, rfl, hv, hno⟩
  · have HF : Hid (fndB 1 g1 g2 l = false) := fnd_none hno
    clear hno
    go_wp2_with fail
    go_ret
    exact ⟨ret_bool HF.out.symm, hb2w⟩
  · have HF : Hid (fndB 1 g1 g2 l = okB 1 g2 l[k].val) := fnd_at hk hno hv
    clear hno hv
    obtain ⟨b, off, rfl, hbB, A', cp, c0, c1, c2, c3, hm⟩ := (Hr.out.at_ hb2w).2 k hk
    have hkI : (k : Int) < (l.length : Int) := by omega
    have qk : decide ((k : Int) < 0) = false := decide_eq_false (by omega)
    have c2' : w2.cell? ⟨b, off + k * 4 + 1 + 1, none⟩ = some (.int .i64 l[k].val.n) := c2
    have c3' : w2.cell? ⟨b, off + k * 4 + 1 + 2, none⟩ = some (.slice A' l[k].val.kids.length cp) := c3
    have hsz2 : w.heap.size ≤ w2.heap.size := hb2w.size
    clear hm
    by_cases hc : l[k].val.ctor = -1
    · have u := ieq_t hc
      have HF2 : Hid (fndB 1 g1 g2 l = decide (l[k].val.n < g2)) := by unfold Hid; rw [HF.out, ok_less hc rfl]
      clear hc
      go_wp2_with (go_at_call 179; refine (holds_lt g2 l[k].val.n _).mono ?_; rintro e3 w3 ⟨rfl, rfl⟩)
      go_ret
      exact ⟨ret_bool HF2.out.symm, by first | exact hb2w | exact (hb2w.alloc (by omega) _)⟩
    · have u := ieq_f hc
      have HF2 : Hid (fndB 1 g1 g2 l = false) := by unfold Hid; rw [HF.out, ok_ctor hc]
      clear hc
      go_wp2_with fail
      go_ret
      exact ⟨ret_bool HF2.out.symm, by first | exact hb2w | exact (hb2w.alloc (by omega) _)⟩
set_option maxHeartbeats 1600000 in
theorem gh_eq (d : Nat) (A : Option Addr) (l : List Bn) (cap : Nat) (g1 g2 : Int) (w : World) (hr : RBs d w w.heap.size A l) :
    Calls Try.prog 38 #[.agg #[.int .i64 2, .int .i64 g1, .int .i64 g2], .slice A l.length cap] w fun e w' => e = .returned (.bool (fndB 2 g1 g2 l)) ∧ Below w.heap.size w w' := by
  have Hr := Lib.hid hr
  clear hr
  generalize hw0 : w.alloc (.cells #[.int .i64 2, .int .i64 g1, .int .i64 g2] 63) = w0
  have hb0 : Below w.heap.size w w0 := by rw [← hw0]; exact (Below.refl _ _).alloc (Nat.le_refl _) _
  have HX : Hid (GBx w0 w.heap.size 2 g1 g2) := by rw [← hw0]; exact ⟨by simp [go_sem], by simp [go_sem], by simp [go_sem]⟩
  have HW := Lib.hid hw0
  clear hw0
  obtain ⟨x0, x1, x2⟩ := HX.out
  have hn := Hr.out.1
  unfold maxLen at hn
  have HC := Lib.hid (cond_eq g1 g2 w0)
  have hm0 : ∀ w, (method 333 171 (.int .i64 g2) "loop.example/matchcompiler/impl.holdsFor").run Try.prog w = .ok (181, .int .i64 g2) w := fun w => by kernel_rfl
  go_enter Try.func38, Try.ntmps38
  go_wp2_with (go_at_call 79; (try rw [HW.out]); refine HC.out.mono ?_; rintro e1 w1 ⟨rfl, hb1⟩; obtain ⟨y0, y1, y2⟩ := HX.out.at_ hb1; have hb1w := below_aft hb0 hb1 hb0.size)
  refine (indexG_any d w.heap.size A l cap g1 _ (Hr.out.at_ hb1w) y1).mono ?_
  rintro e2 w2 ⟨r, rfl, hf, hb2⟩
  have hb2w := below_aft hb1w hb2 hb1w.size
  obtain ⟨z0, z1, z2⟩ := (HX.out.at_ hb1).at_ hb2
  clear x0 x1 x2 y0 y1 y2
  rcases hf with ⟨rfl, hno⟩ | ⟨k, hk, rfl, hv, hno⟩
  · have HF : Hid (fndB 2 g1 g2 l = false) := fnd_none hno
    clear hno
    go_wp2_with fail
    go_ret
    exact ⟨ret_bool HF.out.symm, hb2w⟩
  · have HF : Hid (fndB 2 g1 g2 l = okB 2 g2 l[k].val) := fnd_at hk hno hv
    clear hno hv
    obtain ⟨b, off, rfl, hbB, A', cp, c0, c1, c2, c3, hm⟩ := (Hr.out.at_ hb2w).2 k hk
    have hkI : (k : Int) < (l.length : Int) := by omega
    have qk : decide ((k : Int) < 0) = false := decide_eq_false (by omega)
    have c2' : w2.cell? ⟨b, off + k * 4 + 1 + 1, none⟩ = some (.int .i64 l[k].val.n) := c2
    have c3' : w2.cell? ⟨b, off + k * 4 + 1 + 2, none⟩ = some (.slice A' l[k].val.kids.length cp) := c3
    have hsz2 : w.heap.size ≤ w2.heap.size := hb2w.size
    clear hm
    by_cases hc : l[k].val.ctor = -1
    · have u := ieq_t hc
      have HF2 : Hid (fndB 2 g1 g2 l = decide (l[k].val.n = g2)) := by unfold Hid; rw [HF.out, ok_equal hc rfl]
      clear hc
      go_wp2_with (go_at_call 181; refine (holds_eq g2 l[k].val.n _).mono ?_; rintro e3 w3 ⟨rfl, rfl⟩)
      go_ret
      exact ⟨ret_bool HF2.out.symm, by first | exact hb2w | exact (hb2w.alloc (by omega) _)⟩
    · have u := ieq_f hc
      have HF2 : Hid (fndB 2 g1 g2 l = false) := by unfold Hid; rw [HF.out, ok_ctor hc]
      clear hc
      go_wp2_with fail
      go_ret
      exact ⟨ret_bool HF2.out.symm, by first | exact hb2w | exact (hb2w.alloc (by omega) _)⟩
end Go.Proofs.Yteoopmogklpnoaa
/-
  GuardHolds of the program, every guard. No statement is proved here.
-/
namespace Go.Proofs.Yteoopmogklpnoaa
open Go.RowKit Go.Sort Go.Deep
set_option maxRecDepth 100000
set_option linter.unusedVariables false
set_option maxHeartbeats 1600000 in
theorem gh_unk (d : Nat) (A : Option Addr) (l : List Bn) (cap : Nat) (g0 g1 g2 : Int) (w : World) (hr : RBs d w w.heap.size A l) (h0 : ¬ g0 = 0) (h1 : ¬ (g0 = 1 ∨ g0 = 2)) :
    Calls Try.prog 38 #[.agg #[.int .i64 g0, .int .i64 g1, .int .i64 g2], .slice A l.length cap] w fun e w' => e = .returned (.bool false) ∧ Below w.heap.size w w' := by
  have Hr := Lib.hid hr
  clear hr
  generalize hw0 : w.alloc (.cells #[.int .i64 g0, .int .i64 g1, .int .i64 g2] 63) = w0
  have hb0 : Below w.heap.size w w0 := by rw [← hw0]; exact (Below.refl _ _).alloc (Nat.le_refl _) _
  have HX : Hid (GBx w0 w.heap.size g0 g1 g2) := by rw [← hw0]; exact ⟨by simp [go_sem], by simp [go_sem], by simp [go_sem]⟩
  have HW := Lib.hid hw0
  clear hw0
  obtain ⟨x0, x1, x2⟩ := HX.out
  have u0 := ieq_f h0
  have HD : Hid (decide (g0 = 1 ∨ g0 = 2) = false) := decide_eq_false h1
  have HC := Lib.hid (cond_any g0 g1 g2 w0)
  clear h0 h1
  go_enter Try.func38, Try.ntmps38
  go_wp2_with (go_at_call 79; (try rw [HW.out]); refine HC.out.mono ?_; rw [HD.out]; rintro e1 w1 ⟨v1, rfl, hb1⟩; obtain ⟨y0, y1, y2⟩ := HX.out.at_ hb1; have hb1w := below_aft hb0 hb1 hb0.size)
  refine (indexG_any d w.heap.size A l cap g1 _ (Hr.out.at_ hb1w) y1).mono ?_
  rintro e2 w2 ⟨r, rfl, hf, hb2⟩
  have hb2w := below_aft hb1w hb2 hb1w.size
  obtain ⟨z0, z1, z2⟩ := (HX.out.at_ hb1).at_ hb2
  clear x0 x1 x2 y0 y1 y2 hf
  go_wp2_with fail
  go_ret
  exact ⟨rfl, hb2w⟩
theorem gh_zero (A : Option Addr) (n cap : Nat) (g1 g2 : Int) (w : World) :
    Calls Try.prog 38 #[.agg #[.int .i64 0, .int .i64 g1, .int .i64 g2], .slice A n cap] w fun e w' => e = .returned (.bool true) ∧ Below w.heap.size w w' := by
  go_enter Try.func38, Try.ntmps38
  go_wp2_with fail
  go_ret
  exact ⟨rfl, (Below.refl _ _).alloc (Nat.le_refl _) _⟩
theorem gh_impl (d : Nat) (A : Option Addr) (l : List Bn) (cap : Nat) (g0 g1 g2 : Int) (w : World) (hr : RBs d w w.heap.size A l) :
    Calls Try.prog 38 #[.agg #[.int .i64 g0, .int .i64 g1, .int .i64 g2], .slice A l.length cap] w fun e w' => e = .returned (.bool (ghB g0 g1 g2 l)) ∧ Below w.heap.size w w' := by
  by_cases h0 : g0 = 0
  · subst h0
    exact gh_zero A l.length cap g1 g2 w
  · have e : ghB g0 g1 g2 l = fndB g0 g1 g2 l := if_neg h0
    rw [e]
    by_cases h1 : g0 = 1
    · subst h1; exact gh_lt d A l cap g1 g2 w hr
    · by_cases h2 : g0 = 2
      · subst h2; exact gh_eq d A l cap g1 g2 w hr
      · rw [fnd_unk (fun h => h.elim h1 h2)]
        exact gh_unk d A l cap g0 g1 g2 w hr h0 (fun h => h.elim h1 h2)
end Go.Proofs.Yteoopmogklpnoaa
