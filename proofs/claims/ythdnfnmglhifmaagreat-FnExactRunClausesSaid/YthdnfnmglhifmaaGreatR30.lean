/-
  When a list of clauses is right: what is asked, and the search of a clause that is not. No statement is proved here.
-/
import Derived.Test.YthdnfnmglhifmaaGreatR29
import Derived.Test.YthdnfnmglhifmaaGreatR14
import Derived.Test.YthdnfnmglhifmaaGreatR27
namespace Go.Proofs.YthdnfnmglhifmaaGreat
open Go.RowKit Go.Sort Go.Deep
set_option maxRecDepth 100000
set_option linter.unusedVariables false
noncomputable def ckB (l : List Da) (t : Ty) (x : Cn) : Bool := cvT l t x.pat x.g0 x.g1 x.g2
noncomputable def csB (l : List Da) (t : Ty) (L : List Cn) : Bool := dec (TyOK l t) && dec (L.length ≤ 8 ∧ ∀ x ∈ L, ckB l t x = true)
def AllC (l : List Da) (t : Ty) (L : List Cn) (k : Nat) : Prop := ∀ j (h : j < L.length), j < k → ckB l t L[j] = true
section
variable {l : List Da} {t : Ty} {L : List Cn} {k : Nat}
theorem AllC.zero : AllC l t L 0 := fun j _ h => absurd h (by omega)
theorem AllC.step (h : AllC l t L k) (hk : k < L.length) (e : ckB l t L[k] = true) : AllC l t L (k + 1) := by
  intro j hj hjk
  by_cases e' : j = k
  · subst e'; exact e
  · exact h j hj (by omega)
theorem AllC.all (h : AllC l t L L.length) : ∀ x ∈ L, ckB l t x = true := fun x hx => by
  obtain ⟨j, hj, e⟩ := List.getElem_of_mem hx
  rw [← e]; exact h j hj hj
theorem cs_yes (ht : TyOK l t) (hl : L.length ≤ 8) (h : AllC l t L L.length) : csB l t L = true := by unfold csB; rw [dec_t ht, dec_t ⟨hl, h.all⟩]; rfl
theorem cs_noty (ht : ¬ TyOK l t) : csB l t L = false := by unfold csB; rw [dec_f ht]; rfl
theorem cs_nolen (hl : ¬ L.length ≤ 8) : csB l t L = false := by unfold csB; rw [dec_f (fun h => hl h.1 : ¬ (L.length ≤ 8 ∧ ∀ x ∈ L, ckB l t x = true))]; simp
theorem cs_noat (hk : k < L.length) (e : ckB l t L[k] = false) : csB l t L = false := by
  have h : ¬ (L.length ≤ 8 ∧ ∀ x ∈ L, ckB l t x = true) := fun h => by have := h.2 _ (List.getElem_mem hk); rw [e] at this; cases this
  unfold csB; rw [dec_f h]; simp
end
/-- What the search answers: whether there is a clause that is none. -/
def BadR (l : List Da) (t : Ty) (L : List Cn) (r : Int) : Prop := (r = -1 ∧ AllC l t L L.length) ∨ ∃ k : Nat, ∃ h : k < L.length, r = k ∧ ckB l t L[k] = false
set_option maxHeartbeats 1600000 in
theorem isBad_any (pa pb : Nat) (A A' : Option Addr) (l : List Da) (cap cp e : Nat) (t : Ty) (x : Cn) (w : World) (hr : RDas w w.heap.size A l) (hv : RPs e w w.heap.size A' x.pat.kids) (hp : w.cell? ⟨pa, 0, none⟩ = some (.slice A l.length cap) ∧ w.cell? ⟨pb, 0, none⟩ = some (.int .i64 t.data) ∧ w.cell? ⟨pb, 1, none⟩ = some (.int .i64 t.index)) :
    Calls Tryz.prog 77 #[.agg #[.int .i64 x.pat.op, .int .i64 x.pat.ctor, .int .i64 x.pat.n, .int .i64 x.pat.m, .int .i64 x.pat.var, .slice A' x.pat.kids.length cp, .int .i64 x.g0, .int .i64 x.g1, .int .i64 x.g2], .pointer (some ⟨pa, 0, none⟩), .pointer (some ⟨pb, 0, none⟩)] w fun e w' => e = .returned (.bool (!ckB l t x)) ∧ Below w.heap.size w w' := by
  have Hr := Lib.hid hr
  have HV := Lib.hid hv
  obtain ⟨hp0, hp1, hp2⟩ := hp
  have hpa : pa < w.heap.size := Go.block_lt_of_cell hp0
  have hpb : pb < w.heap.size := Go.block_lt_of_cell hp1
  clear hr hv
  generalize hw0 : w.alloc (.cells #[.int .i64 x.pat.op, .int .i64 x.pat.ctor, .int .i64 x.pat.n, .int .i64 x.pat.m, .int .i64 x.pat.var, .slice A' x.pat.kids.length cp, .int .i64 x.g0, .int .i64 x.g1, .int .i64 x.g2] 57) = w0
  have hb0 : Below w.heap.size w w0 := by rw [← hw0]; exact (Below.refl _ _).alloc (Nat.le_refl _) _
  have HX : Hid (CBx w0 w.heap.size x.pat (.slice A' x.pat.kids.length cp) x.g0 x.g1 x.g2) := by rw [← hw0]; exact ⟨⟨by simp [go_sem], by simp [go_sem], by simp [go_sem], by simp [go_sem], by simp [go_sem], by simp [go_sem]⟩, by simp [go_sem], by simp [go_sem], by simp [go_sem]⟩
  have q0 : w0.cell? ⟨pa, 0, none⟩ = some (.slice A l.length cap) := (hb0.cell (p := ⟨pa, 0, none⟩) hpa).trans hp0
  have q1 : w0.cell? ⟨pb, 0, none⟩ = some (.int .i64 t.data) := (hb0.cell (p := ⟨pb, 0, none⟩) hpb).trans hp1
  have q2 : w0.cell? ⟨pb, 1, none⟩ = some (.int .i64 t.index) := (hb0.cell (p := ⟨pb, 1, none⟩) hpb).trans hp2
  have HI := Lib.hid (cv_impl A A' l cap cp e t x.pat x.g0 x.g1 x.g2 w0 (Hr.out.at_ hb0) (HV.out.at_ hb0))
  have HW := Lib.hid hw0
  rw [← hw0] at q0 q1 q2
  clear hw0 hp0 hp1 hp2
  have HC : Hid (cvT l t x.pat x.g0 x.g1 x.g2 = ckB l t x) := rfl
  generalize ckB l t x = b at HC ⊢
  obtain ⟨⟨y0, y1, y2, y3, y4, y5⟩, y6, y7, y8⟩ := HX.out
  go_enter Tryz.func77, Tryz.ntmps77
  go_wp2_with (go_at_call 78; (try rw [HW.out]); refine HI.out.mono ?_; rw [HC.out]; rintro e w1 ⟨rfl, hb⟩; have hbw := below_aft hb0 hb hb0.size)
  go_ret
  exact ⟨rfl, hbw⟩
set_option maxHeartbeats 1600000 in
theorem indexBad_any (pa pb : Nat) (A C : Option Addr) (l : List Da) (cap ccap d : Nat) (t : Ty) (L : List Cn) (w : World) (hr : RDas w w.heap.size A l) (hv : RCs d w w.heap.size C L) (hp : w.cell? ⟨pa, 0, none⟩ = some (.slice A l.length cap) ∧ w.cell? ⟨pb, 0, none⟩ = some (.int .i64 t.data) ∧ w.cell? ⟨pb, 1, none⟩ = some (.int .i64 t.index)) :
    Calls Tryz.prog 135 #[.slice C L.length ccap, .func (.func 77) #[] #[.pointer (some ⟨pa, 0, none⟩), .pointer (some ⟨pb, 0, none⟩)]] w fun e w' => ∃ r : Int, e = .returned (.int .i64 r) ∧ BadR l t L r ∧ Below w.heap.size w w' := by
  have hn := hv.1
  unfold maxLen at hn
  have Hr := Lib.hid hr
  have HV := Lib.hid hv
  have HP := Lib.hid hp
  have hpa : pa < w.heap.size := Go.block_lt_of_cell hp.1
  have hpb : pb < w.heap.size := Go.block_lt_of_cell hp.2.1
  clear hr hv hp
  go_enter Tryz.func135, Tryz.ntmps135
  go_wp2_with fail
  go_loopw [8] (fun i wr => ∃ k : Nat, k ≤ L.length ∧ i = .int .i64 k ∧ Hid (AllC l t L k) ∧ Below w.heap.size w wr) (fun i _ => L.length - (intOf i).toNat)
  case atStart => exact ⟨0, by omega, rfl, AllC.zero, Below.refl _ _⟩
  case round =>
    obtain ⟨k, hk, rfl, hno, hb⟩ := hrel
    by_cases hlt : k < L.length
    · obtain ⟨g, off, rfl, hbB, A', cp, c0, c1, c2, c3, c4, c5, c6, c7, c8, hm⟩ := (HV.out.below hb (Nat.le_refl _)).2 k hlt
      have hkI : (k : Int) < (L.length : Int) := by omega
      have hpw : wr.cell? ⟨pa, 0, none⟩ = some (.slice A l.length cap) ∧ wr.cell? ⟨pb, 0, none⟩ = some (.int .i64 t.data) ∧ wr.cell? ⟨pb, 1, none⟩ = some (.int .i64 t.index) := ⟨(hb.cell (p := ⟨pa, 0, none⟩) hpa).trans HP.out.1, (hb.cell (p := ⟨pb, 0, none⟩) hpb).trans HP.out.2.1, (hb.cell (p := ⟨pb, 1, none⟩) hpb).trans HP.out.2.2⟩
      have HIS := Lib.hid (isBad_any pa pb A A' l cap cp d t L[k] wr (Hr.out.at_ hb) (hm.keep (fun _ _ => rfl) hb.size) hpw)
      clear hm hpw
      have HBs := Lib.hid hb.size
      by_cases hs : ckB l t L[k] = true
      · have HC := Lib.hid hs
        have HN := Lib.hid (hno.out.step hlt hs)
        clear hs hno
        go_wp2_with fail
        refine HIS.out.mono ?_
        rw [HC.out]
        rintro e w1 ⟨rfl, hb1⟩
        have hb2 := hb.trans (hb1.mono HBs.out)
        go_wp2_with fail
        go_roundw
        case rel => exact ⟨k + 1, by omega, by go_num, HN, hb2⟩
        case measure => simp [intOf]; omega
      · have hs' : ckB l t L[k] = false := by simpa using hs
        have HC := Lib.hid hs'
        have HT : Hid (BadR l t L (k : Int)) := .inr ⟨k, hlt, rfl, hs'⟩
        clear hs hs' hno
        go_wp2_with fail
        refine HIS.out.mono ?_
        rw [HC.out]
        rintro e w1 ⟨rfl, hb1⟩
        have hb2 := hb.trans (hb1.mono HBs.out)
        go_wp2_with fail
        go_ret
        exact ⟨_, rfl, HT.out, hb2⟩
    · have HT : Hid (BadR l t L (-1)) := .inl ⟨rfl, fun j hj hjk => hno.out j hj (by omega)⟩
      clear hno
      go_wp2_with fail
      go_ret
      exact ⟨_, rfl, HT.out, hb⟩
theorem BadR.two {l : List Da} {t : Ty} {L : List Cn} {r : Int} (h : BadR l t L r) : (decide (0 ≤ r) = false ∧ AllC l t L L.length) ∨ (decide (0 ≤ r) = true ∧ csB l t L = false) := by
  rcases h with ⟨rfl, h⟩ | ⟨k, hk, rfl, h⟩
  · exact .inl ⟨rfl, h⟩
  · exact .inr ⟨decide_eq_true (by omega), cs_noat hk h⟩
theorem containsBad_any (pa pb : Nat) (A C : Option Addr) (l : List Da) (cap ccap d : Nat) (t : Ty) (L : List Cn) (w : World) (hr : RDas w w.heap.size A l) (hv : RCs d w w.heap.size C L) (hp : w.cell? ⟨pa, 0, none⟩ = some (.slice A l.length cap) ∧ w.cell? ⟨pb, 0, none⟩ = some (.int .i64 t.data) ∧ w.cell? ⟨pb, 1, none⟩ = some (.int .i64 t.index)) :
    Calls Tryz.prog 79 #[.slice C L.length ccap, .func (.func 77) #[] #[.pointer (some ⟨pa, 0, none⟩), .pointer (some ⟨pb, 0, none⟩)]] w fun e w' => ∃ b : Bool, e = .returned (.bool b) ∧ (TyOK l t → L.length ≤ 8 → csB l t L = !b) ∧ Below w.heap.size w w' := by
  have HI := Lib.hid (indexBad_any pa pb A C l cap ccap d t L w hr hv hp)
  clear hr hv hp
  go_enter Tryz.func79, Tryz.ntmps79
  go_wp2_with fail
  refine HI.out.mono ?_
  rintro e w1 ⟨r, rfl, hd, hb⟩
  have HD := Lib.hid hd.two
  clear hd
  go_wp2_with fail
  go_ret
  exact ⟨_, rfl, fun h1 h2 => by rcases HD.out with ⟨e, h⟩ | ⟨e, h⟩ <;> rw [e] <;> first | exact cs_yes h1 h2 h | exact h, hb⟩
end Go.Proofs.YthdnfnmglhifmaaGreat
/-
  Whether a guard holds: what the document asks, and the search of a variable. No statement is proved here.
-/
namespace Go.Proofs.YthdnfnmglhifmaaGreat
open Go.RowKit Go.Sort Go.Deep
set_option maxRecDepth 100000
set_option linter.unusedVariables false
def okB (g0 g2 : Int) (v : Vl) : Bool := decide (v.ctor = -1) && (decide (g0 = 1 ∧ v.n < g2) || decide (g0 = 2 ∧ v.n = g2))
def fndB (g0 g1 g2 : Int) : List Bn → Bool
  | [] => false
  | b :: l => if b.var = g1 then okB g0 g2 b.val else fndB g0 g1 g2 l
def ghB (g0 g1 g2 : Int) (l : List Bn) : Bool := if g0 = 0 then true else fndB g0 g1 g2 l
def NoB (l : List Bn) (g1 : Int) (k : Nat) : Prop := ∀ j (h : j < l.length), j < k → ¬ l[j].var = g1
theorem NoB.zero (l : List Bn) (g1 : Int) : NoB l g1 0 := fun j _ h => absurd h (by omega)
theorem NoB.step {l : List Bn} {g1 : Int} {k : Nat} (h : NoB l g1 k) (hk : k < l.length) (e : ¬ l[k].var = g1) : NoB l g1 (k + 1) := by
  intro j hj hjk
  by_cases e' : j = k
  · subst e'; exact e
  · exact h j hj (by omega)
section
variable {g0 g1 g2 : Int}
theorem fnd_none : ∀ {l : List Bn}, NoB l g1 l.length → fndB g0 g1 g2 l = false
  | [], _ => rfl
  | b :: l, h => by
    unfold fndB
    have h0 : ¬ b.var = g1 := h 0 (by simp) (by simp)
    rw [if_neg h0]
    exact fnd_none (fun j hj hjk => h (j + 1) (by simpa using hj) (by simpa using hj))
theorem fnd_at : ∀ {l : List Bn} {k : Nat} (hk : k < l.length), NoB l g1 k → l[k].var = g1 → fndB g0 g1 g2 l = okB g0 g2 l[k].val
  | [], _, hk, _, _ => absurd hk (by simp)
  | b :: l, 0, _, _, e => by
    unfold fndB
    have e' : b.var = g1 := e
    rw [if_pos e']; rfl
  | b :: l, k + 1, hk, h, e => by
    unfold fndB
    have h0 : ¬ b.var = g1 := h 0 (by simp) (by omega)
    rw [if_neg h0]
    exact fnd_at (l := l) (k := k) (by simpa using hk) (fun j hj hjk => h (j + 1) (by simpa using hj) (by omega)) e
theorem ok_unk {v : Vl} (h : ¬ (g0 = 1 ∨ g0 = 2)) : okB g0 g2 v = false := by
  unfold okB
  have a : decide (g0 = 1 ∧ v.n < g2) = false := decide_eq_false (fun h' => h (.inl h'.1))
  have b : decide (g0 = 2 ∧ v.n = g2) = false := decide_eq_false (fun h' => h (.inr h'.1))
  rw [a, b]; simp
theorem fnd_unk (h : ¬ (g0 = 1 ∨ g0 = 2)) : ∀ {l : List Bn}, fndB g0 g1 g2 l = false
  | [] => rfl
  | b :: l => by
    unfold fndB
    rw [ok_unk h, fnd_unk h]; simp
theorem ok_ctor {v : Vl} (h : ¬ v.ctor = -1) : okB g0 g2 v = false := by unfold okB; rw [decide_eq_false h]; rfl
theorem ok_less {v : Vl} (h : v.ctor = -1) (h1 : g0 = 1) : okB g0 g2 v = decide (v.n < g2) := by
  subst h1; unfold okB
  have b : decide ((1 : Int) = 2 ∧ v.n = g2) = false := decide_eq_false (fun h' => absurd h'.1 (by decide))
  rw [decide_eq_true h, b]; simp
theorem ok_equal {v : Vl} (h : v.ctor = -1) (h1 : g0 = 2) : okB g0 g2 v = decide (v.n = g2) := by
  subst h1; unfold okB
  have b : decide ((2 : Int) = 1 ∧ v.n < g2) = false := decide_eq_false (fun h' => absurd h'.1 (by decide))
  rw [decide_eq_true h, b]; simp
end
def FndR (l : List Bn) (g1 r : Int) : Prop := (r = -1 ∧ NoB l g1 l.length) ∨ ∃ k : Nat, ∃ h : k < l.length, r = k ∧ l[k].var = g1 ∧ NoB l g1 k
theorem cond_lt (g1 g2 : Int) (w : World) : Calls Tryz.prog 75 #[.agg #[.int .i64 1, .int .i64 g1, .int .i64 g2]] w fun e w' => e = .returned (.tuple #[.iface 196 (.int .i64 g2), .bool true]) ∧ Below w.heap.size w w' := by
  go_enter Tryz.func75, Tryz.ntmps75
  go_wp2_with fail
  go_ret2
  exact ⟨rfl, (Below.refl _ _).alloc (Nat.le_refl _) _⟩
theorem cond_eq (g1 g2 : Int) (w : World) : Calls Tryz.prog 75 #[.agg #[.int .i64 2, .int .i64 g1, .int .i64 g2]] w fun e w' => e = .returned (.tuple #[.iface 197 (.int .i64 g2), .bool true]) ∧ Below w.heap.size w w' := by
  go_enter Tryz.func75, Tryz.ntmps75
  go_wp2_with fail
  go_ret2
  exact ⟨rfl, (Below.refl _ _).alloc (Nat.le_refl _) _⟩
theorem holds_lt (g2 n : Int) (w : World) : Calls Tryz.prog 303 #[.int .i64 g2, .int .i64 n] w fun e w' => e = .returned (.bool (decide (n < g2))) ∧ w' = w := by
  go_enter Tryz.func303, Tryz.ntmps303
  go_wp2_with fail
  go_ret
  exact ⟨rfl, rfl⟩
theorem holds_eq (g2 n : Int) (w : World) : Calls Tryz.prog 305 #[.int .i64 g2, .int .i64 n] w fun e w' => e = .returned (.bool (decide (n = g2))) ∧ w' = w := by
  by_cases h : n = g2
  · have u := ieq_t h
    have HD : Hid (decide (n = g2) = true) := decide_eq_true h
    clear h
    go_enter Tryz.func305, Tryz.ntmps305
    go_wp2_with fail
    go_ret
    exact ⟨ret_bool HD.out.symm, rfl⟩
  · have u := ieq_f h
    have HD : Hid (decide (n = g2) = false) := decide_eq_false h
    clear h
    go_enter Tryz.func305, Tryz.ntmps305
    go_wp2_with fail
    go_ret
    exact ⟨ret_bool HD.out.symm, rfl⟩
theorem isG_any (pb : Nat) (A : Option Addr) (l : List Vl) (cap : Nat) (x c n g1 : Int) (w : World) (hp : w.cell? ⟨pb, 1, none⟩ = some (.int .i64 g1)) :
    Calls Tryz.prog 74 #[.agg #[.int .i64 x, .int .i64 c, .int .i64 n, .slice A l.length cap], .pointer (some ⟨pb, 0, none⟩)] w fun e w' => e = .returned (.bool (decide (x = g1))) ∧ Below w.heap.size w w' := by
  have hpl : pb < w.heap.size := Go.block_lt_of_cell hp
  have hpA : (w.alloc (.cells #[.int .i64 x, .int .i64 c, .int .i64 n, .slice A l.length cap] 41)).cell? ⟨pb, 1, none⟩ = some (.int .i64 g1) := by rw [World.cell?_alloc_lt _ _ _ hpl]; exact hp
  by_cases h : x = g1
  · have u := ieq_t h
    have HD : Hid (decide (x = g1) = true) := decide_eq_true h
    clear h hp
    go_enter Tryz.func74, Tryz.ntmps74
    go_wp2_with fail
    go_ret
    exact ⟨ret_bool HD.out.symm, (Below.refl _ _).alloc (Nat.le_refl _) _⟩
  · have u := ieq_f h
    have HD : Hid (decide (x = g1) = false) := decide_eq_false h
    clear h hp
    go_enter Tryz.func74, Tryz.ntmps74
    go_wp2_with fail
    go_ret
    exact ⟨ret_bool HD.out.symm, (Below.refl _ _).alloc (Nat.le_refl _) _⟩
set_option maxHeartbeats 1600000 in
theorem indexG_any (d pb : Nat) (A : Option Addr) (l : List Bn) (cap : Nat) (g1 : Int) (w : World) (hr : RBs d w w.heap.size A l) (hp : w.cell? ⟨pb, 1, none⟩ = some (.int .i64 g1)) :
    Calls Tryz.prog 76 #[.slice A l.length cap, .func (.func 74) #[] #[.pointer (some ⟨pb, 0, none⟩)]] w fun e w' => ∃ r : Int, e = .returned (.int .i64 r) ∧ FndR l g1 r ∧ Below w.heap.size w w' := by
  have hn := hr.1
  unfold maxLen at hn
  have Hr := Lib.hid hr
  have HP := Lib.hid hp
  have hpl : pb < w.heap.size := Go.block_lt_of_cell hp
  clear hr hp
  go_enter Tryz.func76, Tryz.ntmps76
  go_wp2_with fail
  go_loopw [8] (fun i wr => ∃ k : Nat, k ≤ l.length ∧ i = .int .i64 k ∧ NoB l g1 k ∧ Below w.heap.size w wr) (fun i _ => l.length - (intOf i).toNat)
  case atStart => exact ⟨0, by omega, rfl, NoB.zero _ _, Below.refl _ _⟩
  case round =>
    obtain ⟨k, hk, rfl, hno, hb⟩ := hrel
    by_cases hlt : k < l.length
    · obtain ⟨g, off, rfl, hbB, A', cp, c0, c1, c2, c3, hm⟩ := (Hr.out.below hb (Nat.le_refl _)).2 k hlt
      have hkI : (k : Int) < (l.length : Int) := by omega
      have HIS := Lib.hid (isG_any pb A' l[k].val.kids cp l[k].var l[k].val.ctor l[k].val.n g1 wr ((hb.cell (p := ⟨pb, 1, none⟩) hpl).trans HP.out))
      clear hm
      by_cases hs : l[k].var = g1
      · have HC : Hid (decide (l[k].var = g1) = true) := decide_eq_true hs
        have HT : Hid (FndR l g1 (k : Int)) := .inr ⟨k, hlt, rfl, hs, hno⟩
        clear hs hno
        go_wp2_with fail
        refine HIS.out.mono ?_
        rw [HC.out]
        rintro e w1 ⟨rfl, hb1⟩
        have hb2 := hb.trans (hb1.mono hb.size)
        go_wp2_with fail
        go_ret
        exact ⟨_, rfl, HT.out, hb2⟩
      · have HC : Hid (decide (l[k].var = g1) = false) := decide_eq_false hs
        have HN := Lib.hid (hno.step hlt hs)
        clear hs hno
        go_wp2_with fail
        refine HIS.out.mono ?_
        rw [HC.out]
        rintro e w1 ⟨rfl, hb1⟩
        have hb2 := hb.trans (hb1.mono hb.size)
        go_wp2_with fail
        go_roundw
        case rel => exact ⟨k + 1, by omega, by go_num, HN.out, hb2⟩
        case measure => simp [intOf]; omega
    · have HT : Hid (FndR l g1 (-1)) := .inl ⟨rfl, fun j hj hjk => hno j hj (by omega)⟩
      clear hno
      go_wp2_with fail
      go_ret
      exact ⟨_, rfl, HT.out, hb⟩
end Go.Proofs.YthdnfnmglhifmaaGreat
/-
  RunClauses: what is asked. Plain mathematics. No statement is proved here.
-/
namespace Go.Proofs.YthdnfnmglhifmaaGreat
open Go.RowKit Go.Sort Go.Deep
set_option maxRecDepth 100000
set_option linter.unusedVariables false
/-- What a clause that fits gives to its variables. -/
def fitO (v : Vl) (x : Cn) : Option (List Bn) :=
  match mtS 10 x.pat v with
  | none => none
  | some M => if ghB x.g0 x.g1 x.g2 M = true then some (sortB M 6) else none
theorem fit_no {v : Vl} {x : Cn} (h : mtS 10 x.pat v = none) : fitO v x = none := by unfold fitO; rw [h]
theorem fit_gd {v : Vl} {x : Cn} {M : List Bn} (h : mtS 10 x.pat v = some M) (h' : ghB x.g0 x.g1 x.g2 M = false) : fitO v x = none := by
  unfold fitO; rw [h]; show (if ghB x.g0 x.g1 x.g2 M = true then some (sortB M 6) else none) = none; rw [h']; rfl
theorem fit_yes {v : Vl} {x : Cn} {M : List Bn} (h : mtS 10 x.pat v = some M) (h' : ghB x.g0 x.g1 x.g2 M = true) : fitO v x = some (sortB M 6) := by
  unfold fitO; rw [h]; show (if ghB x.g0 x.g1 x.g2 M = true then some (sortB M 6) else none) = _; rw [if_pos h']
/-- The first clause that fits, and its bindings. -/
def runF (v : Vl) : List Cn → Int → Int × List Bn
  | [], _ => (-1, [])
  | x :: L, i => match fitO v x with
    | some S => (i, S)
    | none => runF v L (i + 1)
def NoF (v : Vl) (L : List Cn) (k : Nat) : Prop := ∀ j (h : j < L.length), j < k → fitO v L[j] = none
theorem NoF.zero {v : Vl} {L : List Cn} : NoF v L 0 := fun j _ h => absurd h (by omega)
theorem NoF.step {v : Vl} {L : List Cn} {k : Nat} (h : NoF v L k) (hk : k < L.length) (e : fitO v L[k] = none) : NoF v L (k + 1) := by
  intro j hj hjk
  by_cases e' : j = k
  · subst e'; exact e
  · exact h j hj (by omega)
theorem run_none {v : Vl} : ∀ {L : List Cn} {i : Int}, NoF v L L.length → runF v L i = (-1, [])
  | [], _, _ => rfl
  | x :: L, i, h => by
    have h0 : fitO v x = none := h 0 (by simp) (by simp)
    rw [runF, h0]
    exact run_none (L := L) (i := i + 1) (fun j hj hjk => h (j + 1) (by simpa using hj) (by simpa using hj))
theorem run_at {v : Vl} {S : List Bn} : ∀ {L : List Cn} {k : Nat} {i : Int} (hk : k < L.length), NoF v L k → fitO v L[k] = some S → runF v L i = (i + k, S)
  | [], _, _, hk, _, _ => absurd hk (by simp)
  | x :: L, 0, i, hk, _, e => by
    have e' : fitO v x = some S := e
    rw [runF, e']; simp
  | x :: L, k + 1, i, hk, h, e => by
    have h0 : fitO v x = none := h 0 (by simp) (by omega)
    rw [runF, h0]
    have := run_at (L := L) (k := k) (i := i + 1) (by simpa using hk) (fun j hj hjk => h (j + 1) (by simpa using hj) (by omega)) e
    show runF v L (i + 1) = _
    rw [this]; congr 1; push_cast; omega
noncomputable def rcO (l : List Da) (t : Ty) (L : List Cn) (v : Vl) : Int × List Bn × Bool := if (csB l t L && isV l t v) = true then ((runF v L 0).1, (runF v L 0).2, true) else (-1, [], false)
theorem rc_no1 {l : List Da} {t : Ty} {L : List Cn} {v : Vl} (h : csB l t L = false) : rcO l t L v = (-1, [], false) := by unfold rcO; rw [h]; rfl
theorem rc_no2 {l : List Da} {t : Ty} {L : List Cn} {v : Vl} (h : isV l t v = false) : rcO l t L v = (-1, [], false) := by unfold rcO; rw [h, Bool.and_false]; rfl
theorem rc_yes {l : List Da} {t : Ty} {L : List Cn} {v : Vl} (h : csB l t L = true) (h' : isV l t v = true) : rcO l t L v = ((runF v L 0).1, (runF v L 0).2, true) := by unfold rcO; rw [h, h']; rfl
theorem of_dec {p : Prop} (h : dec p = true) : p := by
  by_cases hp : p
  · exact hp
  · rw [dec_f hp] at h; cases h
theorem cs_parts {l : List Da} {t : Ty} {L : List Cn} (h : csB l t L = true) : TyOK l t ∧ L.length ≤ 8 ∧ ∀ x ∈ L, ckB l t x = true := by
  unfold csB at h
  rw [Bool.and_eq_true] at h
  exact ⟨of_dec h.1, of_dec h.2⟩
theorem ck_pv {l : List Da} {t : Ty} {x : Cn} (h : ckB l t x = true) : pvT l t x.pat = true := by
  unfold ckB cvT at h
  rw [Bool.and_eq_true] at h
  exact h.1
section
variable {g0 g1 g2 : Int}
theorem fnd_nov : ∀ {a : List Bn}, (∀ x ∈ a, ¬ x.var = g1) → fndB g0 g1 g2 a = false
  | [], _ => rfl
  | b :: a, h => by rw [fndB, if_neg (h b (List.mem_cons_self ..))]; exact fnd_nov (fun x hx => h x (List.mem_cons_of_mem _ hx))
theorem fnd_app_no : ∀ {a b : List Bn}, (∀ x ∈ a, ¬ x.var = g1) → fndB g0 g1 g2 (a ++ b) = fndB g0 g1 g2 b
  | [], _, _ => rfl
  | c :: a, b, h => by rw [List.cons_append, fndB, if_neg (h c (List.mem_cons_self ..))]; exact fnd_app_no (fun x hx => h x (List.mem_cons_of_mem _ hx))
theorem fnd_app_yes : ∀ {a b : List Bn}, (∃ x ∈ a, x.var = g1) → fndB g0 g1 g2 (a ++ b) = fndB g0 g1 g2 a
  | [], _, h => by obtain ⟨x, hx, _⟩ := h; cases hx
  | c :: a, b, h => by
    rw [List.cons_append, fndB, fndB]
    by_cases e : c.var = g1
    · rw [if_pos e, if_pos e]
    · rw [if_neg e, if_neg e]
      refine fnd_app_yes ?_
      obtain ⟨x, hx, hv⟩ := h
      rcases List.mem_cons.1 hx with rfl | hx
      · exact absurd hv e
      · exact ⟨x, hx, hv⟩
theorem fnd_pick {n : Nat} (e : g1 = (n : Int)) : ∀ {L : List Bn}, fndB g0 g1 g2 (pickB L n) = fndB g0 g1 g2 L
  | [] => rfl
  | b :: L => by
    unfold pickB
    rw [List.filter_cons]
    by_cases h : b.var = (n : Int)
    · rw [if_pos (by simp [h]), fndB, fndB, if_pos (by omega), if_pos (by omega)]
    · rw [if_neg (by simp [h]), fndB, if_neg (by omega)]
      exact fnd_pick e (L := L)
theorem fnd_sort (L : List Bn) : ∀ n : Nat, (0 ≤ g1 → g1 < n → fndB g0 g1 g2 (sortB L n) = fndB g0 g1 g2 L) ∧ (¬ (0 ≤ g1 ∧ g1 < n) → ∀ x ∈ sortB L n, ¬ x.var = g1)
  | 0 => ⟨fun h h' => by omega, fun _ x hx => by cases hx⟩
  | n + 1 => by
    obtain ⟨h1, h2⟩ := fnd_sort L n
    have hp : ∀ x ∈ pickB L n, x.var = (n : Int) := fun x hx => by
      have := (List.mem_filter.1 hx).2
      simpa using this
    refine ⟨fun a b => ?_, fun a x hx => ?_⟩
    · rw [sortB]
      by_cases e : g1 = (n : Int)
      · rw [fnd_app_no (h2 (by omega)), fnd_pick e]
      · have h1' := h1 a (by push_cast at b; omega)
        by_cases hx : ∃ x ∈ sortB L n, x.var = g1
        · rw [fnd_app_yes hx, h1']
        · have hx' : ∀ x ∈ sortB L n, ¬ x.var = g1 := fun x h e => hx ⟨x, h, e⟩
          rw [fnd_app_no hx', ← h1', fnd_nov hx', fnd_nov (fun x h => by rw [hp x h]; omega)]
    · rw [sortB] at hx
      rcases List.mem_append.1 hx with hx | hx
      · exact h2 (by push_cast at a; omega) x hx
      · rw [hp x hx]; push_cast at a; omega
theorem gh_sort {L : List Bn} (h : ∀ b ∈ L, 0 ≤ b.var ∧ b.var ≤ 5) : ghB g0 g1 g2 (sortB L 6) = ghB g0 g1 g2 L := by
  unfold ghB
  by_cases e : g0 = 0
  · rw [if_pos e, if_pos e]
  · rw [if_neg e, if_neg e]
    obtain ⟨h1, h2⟩ := fnd_sort (g0 := g0) (g1 := g1) (g2 := g2) L 6
    by_cases hg : 0 ≤ g1 ∧ g1 < 6
    · exact h1 hg.1 (by push_cast; omega)
    · rw [fnd_nov (h2 (by push_cast; omega)), fnd_nov (fun x hx => by have := h x hx; omega)]
end
theorem vars_in {l : List Da} {t : Ty} {p : Pt} {v : Vl} {M : List Bn} (h : pvT l t p = true) (hm : mtS 10 p v = some M) : ∀ b ∈ M, 0 ≤ b.var ∧ b.var ≤ 5 := by
  have hp : shP l 10 t p = true ∧ linP l 10 t p = true := by
    unfold pvT isP at h
    rw [Bool.and_eq_true, Bool.and_eq_true, Bool.and_eq_true] at h
    exact ⟨h.2.1, h.2.2.2⟩
  exact fun b hb => ((lin_vars l 10 t p v M hp.1 hp.2 hm).2 b hb).2
theorem fit_mq {l : List Da} {t : Ty} {x : Cn} {v : Vl} (hc : ckB l t x = true) (hv : isV l t v = true) : (mqO l t x.pat v = none ∧ fitO v x = none) ∨ ∃ S, mqO l t x.pat v = some S ∧ ((ghB x.g0 x.g1 x.g2 S = true ∧ fitO v x = some S) ∨ (ghB x.g0 x.g1 x.g2 S = false ∧ fitO v x = none)) := by
  have hp := ck_pv hc
  rw [mqO_yes hp hv]
  cases hm : mtS 10 x.pat v with
  | none => exact .inl ⟨rfl, fit_no hm⟩
  | some M =>
    refine .inr ⟨sortB M 6, rfl, ?_⟩
    rw [gh_sort (vars_in hp hm)]
    cases hg : ghB x.g0 x.g1 x.g2 M with
    | true => exact .inl ⟨rfl, fit_yes hm hg⟩
    | false => exact .inr ⟨rfl, fit_gd hm hg⟩
theorem run_cases {v : Vl} : ∀ (L : List Cn) (i : Int), (runF v L i).2 = [] ∨ ∃ x ∈ L, ∃ S, fitO v x = some S ∧ (runF v L i).2 = S
  | [], _ => .inl rfl
  | x :: L, i => by
    rw [runF]
    cases h : fitO v x with
    | some S => exact .inr ⟨x, List.mem_cons_self .., S, h, rfl⟩
    | none =>
      rcases run_cases L (i + 1) with h' | ⟨y, hy, S, h1, h2⟩
      · exact .inl h'
      · exact .inr ⟨y, List.mem_cons_of_mem _ hy, S, h1, h2⟩
end Go.Proofs.YthdnfnmglhifmaaGreat
/-
  ClausesValid of the document. No statement is proved here.
-/
namespace Go.Proofs.YthdnfnmglhifmaaGreat
open Go.RowKit Go.Sort Go.Deep
set_option maxRecDepth 100000
set_option linter.unusedVariables false
set_option maxHeartbeats 3200000 in
theorem cs_spec (A C : Option Addr) (l : List Da) (cap ccap d : Nat) (t : Ty) (L : List Cn) (w : World) (hr : RDas w w.heap.size A l) (hv : RCs d w w.heap.size C L) (hw : wCs L ≤ 1048576) :
    Calls Tryz.prog 72 #[.slice A l.length cap, .agg #[.int .i64 t.data, .int .i64 t.index], .slice C L.length ccap] w fun e w' => e = .returned (.bool (csB l t L)) ∧ Below w.heap.size w w' := by
  have HN : Hid (∀ k (h : k < L.length), wP L[k].pat ≤ 1048576) := fun k h => by
    have h1 := sum_take_succ wC L k h
    have h2 := sum_take_le wC L (k + 1)
    have h3 : wC L[k] = wPs L[k].pat.kids := rfl
    have h4 : wCs L = L.length + (L.map wC).sum := rfl
    rw [wP_kids]; omega
  have Hr := Lib.hid hr
  have HV := Lib.hid hv
  have hn := hv.1
  unfold maxLen at hn
  clear hr hv
  generalize hw0 : w.alloc (.cells #[.int .i64 t.data, .int .i64 t.index] 25) = w0
  have hb0 : Below w.heap.size w w0 := by rw [← hw0]; exact (Below.refl _ _).alloc (Nat.le_refl _) _
  have HXT : Hid (Bx w0 w.heap.size t) := by rw [← hw0]; exact ⟨by simp [go_sem], by simp [go_sem]⟩
  have HW := Lib.hid hw0
  clear hw0
  obtain ⟨x0, x1⟩ := HXT.out
  by_cases ht : TyOK l t
  · have HT := Lib.hid ht
    clear ht
    by_cases hl : L.length ≤ 8
    · have q8 : decide ((8 : Int) < (L.length : Int)) = false := decide_eq_false (by omega)
      have HL := Lib.hid hl
      clear hl
      go_enter Tryz.func72, Tryz.ntmps72
      go_wp2_with (go_at_call 121; (try rw [HW.out]); refine (typeV_yes (t := t) (Hr.out.at_ hb0) HT.out).mono ?_; rintro e1 w1 ⟨rfl, hb1⟩; have HX1 := Lib.hid (HXT.out.at_ hb1); have hb1w := below_aft hb0 hb1 hb0.size)
      clear x0 x1
      go_loopw [7] (fun i wr => ∃ k : Nat, k ≤ L.length ∧ i = .int .i64 k ∧ Hid (AllC l t L k) ∧ Below w1.heap.size w1 wr) (fun i _ => L.length - (intOf i).toNat)
      case atStart => exact ⟨0, by omega, rfl, AllC.zero, Below.refl _ _⟩
      case round =>
        obtain ⟨k, hk, rfl, hno, hbr⟩ := hrel
        have hb := below_aft hb1w hbr hb1w.size
        by_cases hlt : k < L.length
        · obtain ⟨g, off, rfl, hbB, A', cp, c0, c1, c2, c3, c4, c5, c6, c7, c8, hm⟩ := (HV.out.below hb (Nat.le_refl _)).2 k hlt
          have hkI : (k : Int) < (L.length : Int) := by omega
          obtain ⟨y0, y1⟩ := HX1.out.at_ hbr
          have z0 := cell_regrown y0
          have z1 := cell_regrown y1
          have d0 := cell_regrown c0
          have d1 := cell_regrown c1
          have d2 := cell_regrown c2
          have d3 := cell_regrown c3
          have d4 := cell_regrown c4
          have d5 := cell_regrown c5
          have d6 := cell_regrown c6
          have d7 := cell_regrown c7
          have d8 := cell_regrown c8
          have Hm := Lib.hid (hm.keep (fun _ _ => rfl) hb.size)
          clear c0 c1 c2 c3 c4 c5 c6 c7 c8 y0 y1 hm
          by_cases hs : ckB l t L[k] = true
          · have HCK : Hid (cvI l t L[k].pat L[k].g0 L[k].g1 L[k].g2 = true) := (cvT_ty HT.out).symm.trans hs
            have HNX := Lib.hid (hno.out.step hlt hs)
            clear hs hno
            have HC : Hid (∀ dq osq, Calls Tryz.prog 132 #[.slice A l.length cap, .agg #[.int .i64 t.data, .int .i64 t.index], .agg #[.int .i64 L[k].pat.op, .int .i64 L[k].pat.ctor, .int .i64 L[k].pat.n, .int .i64 L[k].pat.m, .int .i64 L[k].pat.var, .slice A' L[k].pat.kids.length cp, .int .i64 L[k].g0, .int .i64 L[k].g1, .int .i64 L[k].g2]] (grow (redrawn wr dq) osq) fun e' w' => e' = .returned (.bool true) ∧ Below (grow (redrawn wr dq) osq).heap.size (grow (redrawn wr dq) osq) w') := fun dq osq => by
              have h1 := l4Is_any A A' l cap cp d t L[k].pat L[k].g0 L[k].g1 L[k].g2 (grow (redrawn wr dq) osq) ((Hr.out.at_ hb).at_ (below_regrown wr dq osq)) ((Hm.out).at_ (below_regrown wr dq osq)) (HN.out k hlt) HT.out
              rw [HCK.out] at h1
              exact h1
            go_wp2_with fail
            refine wp_region_quiet_below (by kernel_rfl) (by kernel_rfl) ?_
            repeat (quiet_step (exact Calls.regrown_of (HC.out _ _)))
            refine wpQuiet_nil ?_
            intro _ hw'
            obtain ⟨⟨dq, osq⟩, hw''⟩ := hw'
            subst hw''
            have hb2 := hbr.trans ((below_regrown wr dq osq).mono hbr.size)
            clear d0 d1 d2 d3 d4 d5 d6 d7 d8 z0 z1
            go_wp2_with fail
            go_roundw
            case rel => exact ⟨k + 1, by omega, by go_num, HNX, hb2⟩
            case measure => simp [intOf]; omega
          · have hs' : ckB l t L[k] = false := by simpa using hs
            have HCK : Hid (cvI l t L[k].pat L[k].g0 L[k].g1 L[k].g2 = false) := (cvT_ty HT.out).symm.trans hs'
            have HF : Hid (csB l t L = false) := cs_noat hlt hs'
            clear hs hs' hno
            have HC : Hid (∀ dq osq, Calls Tryz.prog 132 #[.slice A l.length cap, .agg #[.int .i64 t.data, .int .i64 t.index], .agg #[.int .i64 L[k].pat.op, .int .i64 L[k].pat.ctor, .int .i64 L[k].pat.n, .int .i64 L[k].pat.m, .int .i64 L[k].pat.var, .slice A' L[k].pat.kids.length cp, .int .i64 L[k].g0, .int .i64 L[k].g1, .int .i64 L[k].g2]] (grow (redrawn wr dq) osq) fun e' w' => e' = .returned (.bool false) ∧ Below (grow (redrawn wr dq) osq).heap.size (grow (redrawn wr dq) osq) w') := fun dq osq => by
              have h1 := l4Is_any A A' l cap cp d t L[k].pat L[k].g0 L[k].g1 L[k].g2 (grow (redrawn wr dq) osq) ((Hr.out.at_ hb).at_ (below_regrown wr dq osq)) ((Hm.out).at_ (below_regrown wr dq osq)) (HN.out k hlt) HT.out
              rw [HCK.out] at h1
              exact h1
            go_wp2_with fail
            refine wp_region_quiet_below (by kernel_rfl) (by kernel_rfl) ?_
            repeat (quiet_step (exact Calls.regrown_of (HC.out _ _)))
            refine wpQuiet_nil ?_
            intro _ hw'
            obtain ⟨⟨dq, osq⟩, hw''⟩ := hw'
            subst hw''
            have hb2 := hbr.trans ((below_regrown wr dq osq).mono hbr.size)
            clear d0 d1 d2 d3 d4 d5 d6 d7 d8 z0 z1
            go_wp2_with fail
            go_ret
            exact ⟨ret_bool HF.out.symm, below_aft hb1w hb2 hb1w.size⟩
        · have HF : Hid (csB l t L = true) := cs_yes HT.out HL.out (fun j hj hjk => hno.out j hj (by omega))
          clear hno
          go_wp2_with fail
          go_ret
          exact ⟨ret_bool HF.out.symm, hb⟩
    · have q8 : decide ((8 : Int) < (L.length : Int)) = true := decide_eq_true (by omega)
      have HF : Hid (csB l t L = false) := cs_nolen hl
      clear hl
      go_enter Tryz.func72, Tryz.ntmps72
      go_wp2_with (go_at_call 121; (try rw [HW.out]); refine (typeV_yes (t := t) (Hr.out.at_ hb0) HT.out).mono ?_; rintro e1 w1 ⟨rfl, hb1⟩; have HX1 := Lib.hid (HXT.out.at_ hb1); have hb1w := below_aft hb0 hb1 hb0.size)
      go_ret
      exact ⟨ret_bool HF.out.symm, hb1w⟩
  · have HT := Lib.hid ht
    have HF : Hid (csB l t L = false) := cs_noty ht
    clear ht
    go_enter Tryz.func72, Tryz.ntmps72
    go_wp2_with (go_at_call 121; (try rw [HW.out]); refine (typeV_no (t := t) (Hr.out.at_ hb0) HT.out).mono ?_; rintro e1 w1 ⟨rfl, hb1⟩; have HX1 := Lib.hid (HXT.out.at_ hb1); have hb1w := below_aft hb0 hb1 hb0.size)
    go_ret
    exact ⟨ret_bool HF.out.symm, hb1w⟩
end Go.Proofs.YthdnfnmglhifmaaGreat
