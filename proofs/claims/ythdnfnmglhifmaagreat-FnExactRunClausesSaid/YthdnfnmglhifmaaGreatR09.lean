/-
  Rows of variables with their types: the place of a variable, and when two have the same: the document's functions. No statement is proved here.
-/
import Derived.Test.YthdnfnmglhifmaaGreatR08
import Derived.Test.YthdnfnmglhifmaaGreatR07
import Derived.Test.YthdnfnmglhifmaaGreatR00
import Derived.Test.YthdnfnmglhifmaaGreatR01
import Derived.Laws.StructEq
import Derived.BigQuiet
import Derived.Maps.AppendAt
namespace Go.Proofs.YthdnfnmglhifmaaGreat
open Go.RowKit Go.Sort Go.Deep
set_option maxRecDepth 100000
set_option linter.unusedVariables false
/-- Are the two equal? -/
noncomputable def eqv {α : Type} (a b : α) : Bool := @decide (a = b) (Classical.propDecidable _)
theorem eqv_t {α : Type} {a b : α} (h : a = b) : eqv a b = true := by unfold eqv; simp [h]
theorem eqv_f {α : Type} {a b : α} (h : ¬ a = b) : eqv a b = false := by unfold eqv; simp [h]
theorem neqTy_no (t : Ty) (w : World) : (Go.binOp .neq 25 (.agg #[.int .i64 t.data, .int .i64 t.index]) (.agg #[.int .i64 t.data, .int .i64 t.index])).run Tryz.prog w = .ok (.bool false) w := by
  have hS : Tryz.prog.underlying 25 = some (.struct (Tryz.prog.fieldsOf 25)) := by kernel_rfl
  have hp : Tryz.prog.stoodInHeld 25 = false := by kernel_rfl
  have u3 := Tryz.underlying3
  have a3 := Tryz.isAgg3
  have z3 := Tryz.sizeOf3
  rw [run_neq_struct, show (10000 : Nat) = 9999 + 1 from rfl, run_equalIn_agg w 9999 25 _ _ hS hp]
  simp only [Program.fieldsOf, Tryz.underlying25]
  go_simp
theorem neqTy_yes (t u : Ty) (h : t ≠ u) (w : World) : (Go.binOp .neq 25 (.agg #[.int .i64 t.data, .int .i64 t.index]) (.agg #[.int .i64 u.data, .int .i64 u.index])).run Tryz.prog w = .ok (.bool true) w := by
  have hS : Tryz.prog.underlying 25 = some (.struct (Tryz.prog.fieldsOf 25)) := by kernel_rfl
  have hp : Tryz.prog.stoodInHeld 25 = false := by kernel_rfl
  have u3 := Tryz.underlying3
  have a3 := Tryz.isAgg3
  have z3 := Tryz.sizeOf3
  rw [run_neq_struct, show (10000 : Nat) = 9999 + 1 from rfl, run_equalIn_agg w 9999 25 _ _ hS hp]
  simp only [Program.fieldsOf, Tryz.underlying25]
  obtain ⟨a, b⟩ := t
  obtain ⟨c, d⟩ := u
  have h' : ¬ (a = c ∧ b = d) := fun ⟨e1, e2⟩ => h (by rw [e1, e2])
  go_simp
  by_cases h1 : a = c <;> by_cases h2 : b = d <;> simp_all
theorem guardTy (x y : Operand) (xs ys : Array Value) (w : World) : (eqGuard .neq 25 x y (.agg xs) (.agg ys)).run Tryz.prog w = .ok () w := run_eqGuard_agg (P := Tryz.prog) w .neq 25 x y xs ys (by kernel_rfl)
structure Vt where
  var : Int
  ty : Ty
deriving Inhabited
def RVt (w : World) (b o : Nat) (x : Vt) : Prop := w.cell? ⟨b, o, none⟩ = some (.int .i64 x.var) ∧ w.cell? ⟨b, o + 1, none⟩ = some (.int .i64 x.ty.data) ∧ w.cell? ⟨b, o + 1 + 1, none⟩ = some (.int .i64 x.ty.index)
def RVts (w : World) (B : Nat) (A : Option Addr) (l : List Vt) : Prop := l.length ≤ maxLen ∧ ∀ k (h : k < l.length), ∃ b off, A = some ⟨b, off, none⟩ ∧ b < B ∧ RVt w b (off + k * 3) l[k]
theorem RVts.keep {w w' : World} {B B' : Nat} {A : Option Addr} {l : List Vt} (h : RVts w B A l) (hk : ∀ p : Addr, p.block < B → w'.cell? p = w.cell? p) (hB : B ≤ B') : RVts w' B' A l :=
  ⟨h.1, fun k hk' => by
    obtain ⟨b, off, e, hb, h1, h2, h3⟩ := h.2 k hk'
    exact ⟨b, off, e, by omega, (hk _ hb).trans h1, (hk _ hb).trans h2, (hk _ hb).trans h3⟩⟩
theorem RVts.at_ {w w' : World} {A : Option Addr} {l : List Vt} (h : RVts w w.heap.size A l) (hb : Below w.heap.size w w') : RVts w' w'.heap.size A l := h.keep (fun _ hp => hb.cell hp) hb.size
/-- The place of a variable, or -1. -/
def findV (L : List Vt) (n : Int) : Int := if L.findIdx (fun x => x.var == n) < L.length then (L.findIdx (fun x => x.var == n) : Nat) else -1
def NoV (L : List Vt) (n : Int) (k : Nat) : Prop := ∀ j (h : j < L.length), j < k → ¬ L[j].var = n
theorem NoV.zero (L : List Vt) (n : Int) : NoV L n 0 := fun j _ h => absurd h (by omega)
theorem NoV.step {L : List Vt} {n : Int} {k : Nat} (h : NoV L n k) (hk : k < L.length) (e : ¬ L[k].var = n) : NoV L n (k + 1) := by
  intro j hj hjk
  by_cases e' : j = k
  · subst e'; exact e
  · exact h j hj (by omega)
theorem findV_at {L : List Vt} {n : Int} {k : Nat} (h : NoV L n k) (hk : k < L.length) (e : L[k].var = n) : findV L n = k := by
  have h1 : L.findIdx (fun x => x.var == n) = k := (List.findIdx_eq hk).2 ⟨by simpa using e, fun j hj => by simpa using h j (by omega) hj⟩
  unfold findV; rw [h1, if_pos hk]
theorem findV_no {L : List Vt} {n : Int} (h : NoV L n L.length) : findV L n = -1 := by
  have h1 : L.findIdx (fun x => x.var == n) = L.length := List.findIdx_eq_length.2 (fun x hx => by
    obtain ⟨j, hj, rfl⟩ := List.mem_iff_getElem.1 hx
    simpa using h j hj hj)
  unfold findV; rw [h1, if_neg (by omega)]
theorem findV_cases (L : List Vt) (n : Int) : findV L n = -1 ∨ ∃ k : Nat, k < L.length ∧ findV L n = k := by
  unfold findV
  by_cases h : L.findIdx (fun x => x.var == n) < L.length
  · exact .inr ⟨_, h, if_pos h⟩
  · exact .inl (if_neg h)
theorem find_any (A : Option Addr) (L : List Vt) (cap : Nat) (n : Int) (w : World) (hr : RVts w w.heap.size A L) :
    Calls Tryz.prog 239 #[.slice A L.length cap, .int .i64 n] w fun e w' => e = .returned (.int .i64 (findV L n)) ∧ w = w' := by
  have hn := hr.1
  unfold maxLen at hn
  have Hr := Lib.hid hr
  clear hr
  go_enter Tryz.func239, Tryz.ntmps239
  go_wp2_with fail
  go_loopw [5] (fun i wr => ∃ k : Nat, k ≤ L.length ∧ i = .int .i64 k ∧ Hid (NoV L n k) ∧ w = wr) (fun i _ => L.length - (intOf i).toNat)
  case atStart => exact ⟨0, by omega, rfl, NoV.zero _ _, rfl⟩
  case round =>
    obtain ⟨k, hk, rfl, hno, rfl⟩ := hrel
    by_cases hlt : k < L.length
    · obtain ⟨b, off, rfl, _, c0, _⟩ := Hr.out.2 k hlt
      by_cases he : L[k].var = n
      · have q := ieq_t he
        have HI : Hid (findV L n = k) := findV_at hno.out hlt he
        clear he
        go_wp2_with fail
        go_ret
        exact ⟨ret_i64 (by rw [HI.out]), rfl⟩
      · have q := ieq_f he
        have HN : Hid (NoV L n (k + 1)) := hno.out.step hlt he
        clear he
        go_wp2_with fail
        go_roundw
        case rel => exact ⟨k + 1, by omega, by go_num, HN.out, trivial⟩
        case measure => simp [intOf]; omega
    · have he : k = L.length := by omega
      have HI : Hid (findV L n = -1) := findV_no (by rw [← he]; exact hno.out)
      clear he
      go_wp2_with fail
      go_ret
      exact ⟨ret_i64 (by rw [HI.out]), rfl⟩
/-- The k-th of the first list is in the second, with the same type. -/
noncomputable def alV (a b : List Vt) (i : Nat) : Bool := decide (0 ≤ findV b (a.getD i default).var) && eqv (b.getD (findV b (a.getD i default).var).toNat default).ty (a.getD i default).ty
noncomputable def alike (a b : List Vt) : Bool := upto (alV a b) a.length && decide (a.length = b.length)
theorem getD_at {α : Type} [Inhabited α] (l : List α) (i : Nat) (h : i < l.length) : l.getD i default = l[i] := by
  rw [List.getD_eq_getElem?_getD, List.getElem?_eq_getElem h]; rfl
theorem alV_no {a b : List Vt} {i : Nat} (h : i < a.length) (hf : findV b a[i].var = -1) : alV a b i = false := by
  unfold alV; rw [getD_at a i h, hf]; rfl
theorem alV_yes {a b : List Vt} {i k : Nat} (h : i < a.length) (hk : k < b.length) (hf : findV b a[i].var = k) : alV a b i = eqv b[k].ty a[i].ty := by
  unfold alV; rw [getD_at a i h, hf, decide_eq_true (by omega), Int.toNat_natCast, getD_at b k hk]; rfl
set_option maxHeartbeats 800000 in
theorem alike_any (A A' : Option Addr) (a b : List Vt) (cap cap' : Nat) (w : World) (hr : RVts w w.heap.size A a) (hr' : RVts w w.heap.size A' b) :
    Calls Tryz.prog 238 #[.slice A a.length cap, .slice A' b.length cap'] w fun e w' => e = .returned (.bool (alike a b)) ∧ Below w.heap.size w w' := by
  have hn := hr.1
  have hn' := hr'.1
  unfold maxLen at hn hn'
  have Hr := Lib.hid hr
  have Hr' := Lib.hid hr'
  clear hr hr'
  have gd := guardTy
  go_enter Tryz.func238, Tryz.ntmps238
  go_wp2_with fail
  go_loopw [5, 6] (fun i _ wr => ∃ k : Nat, k ≤ a.length ∧ i = .int .i64 k ∧ Hid (upto (alV a b) k = true) ∧ Below w.heap.size w wr) (fun i _ _ => a.length - (intOf i).toNat)
  case atStart => exact ⟨0, by omega, rfl, rfl, Below.refl _ _⟩
  case round =>
    obtain ⟨k, hk, rfl, HU, hb⟩ := hrel
    have hb2 : ∀ n, Below w.heap.size w (wr.drewN n) := fun n => below_drawn hb n
    have HB2 := Lib.hid hb2
    by_cases hlt : k < a.length
    · have hi : (k : Int) < (a.length : Int) := by omega
      have HFI := Lib.hid (find_any A' b cap' a[k].var wr (Hr'.out.at_ hb))
      obtain ⟨b1, o1, rfl, _, c0, c1, c2⟩ := (Hr.out.at_ hb).2 k hlt
      rcases findV_cases b a[k].var with hf | ⟨j, hj, hf⟩
      · have HA := Lib.hid (upto_f (f := alV a b) hlt (alV_no hlt hf))
        rw [hf] at HFI
        clear hf hb2
        go_wp2_with (go_at_call 239; refine HFI.out.mono ?_; rintro e w1 ⟨rfl, rfl⟩)
        go_quiet (fail)
        go_wp2_with fail
        go_ret
        exact ⟨ret_bool (by unfold alike; rw [HA.out]; rfl), HB2.out _⟩
      · have HA := Lib.hid (alV_yes hlt hj hf)
        obtain ⟨b2, o2, rfl, _, d0, d1, d2⟩ := (Hr'.out.at_ hb).2 j hj
        have hj2 : (j : Int) < (b.length : Int) := by omega
        have hj0 : decide ((j : Int) < 0) = false := by simp
        rw [hf] at HFI
        clear hf hb2
        by_cases he : b[j].ty = a[k].ty
        · have hq := neqTy_no b[j].ty
          have HN : Hid (upto (alV a b) (k + 1) = true) := upto_t HU.out (by rw [HA.out, eqv_t he])
          rw [← he] at c1 c2
          clear he
          go_wp2_with (go_at_call 239; refine HFI.out.mono ?_; rintro e w1 ⟨rfl, rfl⟩)
          go_quiet (fail)
          go_wp2_with fail
          go_roundw
          case rel => exact ⟨k + 1, by omega, by go_num, HN, HB2.out _⟩
          case measure => simp [intOf]; omega
        · have hq := neqTy_yes b[j].ty a[k].ty he
          have HN := Lib.hid (upto_f (f := alV a b) hlt (by rw [HA.out, eqv_f he]))
          clear he
          go_wp2_with (go_at_call 239; refine HFI.out.mono ?_; rintro e w1 ⟨rfl, rfl⟩)
          go_quiet (fail)
          go_wp2_with fail
          go_ret
          exact ⟨ret_bool (by unfold alike; rw [HN.out]; rfl), HB2.out _⟩
    · have he : k = a.length := by omega
      have HE : Hid (upto (alV a b) a.length = true) := by unfold Hid; rw [← he]; exact HU.out
      clear he hb2
      by_cases hl : a.length = b.length
      · have q : ((a.length : Int) == (b.length : Int)) = true := by simp [hl]
        have HL : Hid (alike a b = true) := by unfold Hid alike; rw [HE.out, decide_eq_true hl]; rfl
        clear hl
        go_wp2_with fail
        go_ret
        exact ⟨ret_bool HL.out.symm, hb⟩
      · have q : ((a.length : Int) == (b.length : Int)) = false := by simp; omega
        have HL : Hid (alike a b = false) := by unfold Hid alike; rw [decide_eq_false hl]; simp
        clear hl
        go_wp2_with fail
        go_ret
        exact ⟨ret_bool HL.out.symm, hb⟩
end Go.Proofs.YthdnfnmglhifmaaGreat
/-
  How many nodes a value has, up to a number, and when it is one within the limits: the document's functions. No statement is proved here.
-/
namespace Go.Proofs.YthdnfnmglhifmaaGreat
open Go.RowKit Go.Sort Go.Deep
set_option maxRecDepth 100000
set_option linter.unusedVariables false
/-- A count up to a number. -/
def CntOK (N : Nat) (most r : Int) : Prop := ((N : Int) ≤ most → r = N) ∧ (most < N → most < r) ∧ r ≤ N ∧ 1 ≤ r
def CntP (N : Nat) (most : Int) (w : World) (e : Ending) (w' : World) : Prop := ∃ r : Int, e = .returned (.int .i64 r) ∧ CntOK N most r ∧ Below w.heap.size w w'
theorem CntOK.one {most : Int} (h : 0 ≤ most) : CntOK 1 most 1 := ⟨fun _ => rfl, fun h' => by omega, by omega, by omega⟩
theorem CntOK.step {N M : Nat} {most q r : Int} (h : CntOK N most q) (hq : q ≤ most) (hr : CntOK M (most - q) r) : CntOK (N + M) most (q + r) := by
  obtain ⟨a, b, c, d⟩ := h
  obtain ⟨a', b', c', d'⟩ := hr
  have hN : q = N := by
    by_cases e : (N : Int) ≤ most
    · exact a e
    · have := b (by omega); omega
  refine ⟨fun h => ?_, fun h => ?_, ?_, ?_⟩
  · have := a' (by push_cast at h; omega); push_cast; omega
  · have := b' (by push_cast at h; omega); omega
  · push_cast; omega
  · omega
theorem CntOK.over {N M : Nat} {most q : Int} (h : CntOK N most q) (hq : most < q) (hM : N ≤ M) : CntOK M most q := by
  obtain ⟨a, b, c, d⟩ := h
  exact ⟨fun h => by omega, fun _ => hq, by omega, d⟩
/-- The nodes of a value of which the first k parts have been counted. -/
def upK (ks : List Vl) (k : Nat) : Nat := 1 + k + ((ks.take k).map wV).sum
theorem upK_succ (ks : List Vl) (k : Nat) (h : k < ks.length) : upK ks (k + 1) = upK ks k + (1 + wV ks[k]) := by
  unfold upK; rw [sum_take_succ wV ks k h]; omega
theorem upK_all (v : Vl) : upK v.kids v.kids.length = 1 + wV v := by
  unfold upK; rw [List.take_length, wV_kids, wVs_sum]; omega
theorem upK_le (v : Vl) (k : Nat) (h : k ≤ v.kids.length) : upK v.kids k ≤ 1 + wV v := by
  have := sum_take_le wV v.kids k
  unfold upK; rw [wV_kids, wVs_sum]; omega
theorem wV_kid (v : Vl) (k : Nat) (h : k < v.kids.length) : wV v.kids[k] ≤ wV v := by
  have h1 := upK_le v (k + 1) h
  rw [upK_succ _ _ h] at h1
  omega
def CntS (d : Nat) : Prop := ∀ (D : Option Addr) (ep : Nat) (v : Vl) (most : Int) (w : World), RVs d w w.heap.size D v.kids → wV v ≤ 16000000 → 0 ≤ most → most ≤ 100 →
  Calls Tryz.prog 124 #[.agg #[.int .i64 v.ctor, .int .i64 v.n, .slice D v.kids.length ep], .int .i64 most] w (CntP (1 + wV v) most w)
set_option maxHeartbeats 800000 in
theorem cntS_of (d : Nat) (ih : ∀ d', d = d' + 1 → CntS d') : CntS d := by
  intro D ep v most w hv hn h0 h1
  have hl := hv.1
  unfold maxLen at hl
  have HV := Lib.hid hv
  have IH := Lib.hid ih
  clear hv ih
  generalize hw0 : w.alloc (.cells #[.int .i64 v.ctor, .int .i64 v.n, .slice D v.kids.length ep] 31) = w0
  have hb0 : Below w.heap.size w w0 := by rw [← hw0]; exact (Below.refl _ _).alloc (Nat.le_refl _) _
  have HXV : Hid (VBx w0 w.heap.size v.ctor v.n (.slice D v.kids.length ep)) := by rw [← hw0]; exact ⟨by simp [go_sem], by simp [go_sem], by simp [go_sem]⟩
  have HW := Lib.hid hw0
  clear hw0
  go_enter Tryz.func124, Tryz.ntmps124
  go_wp2_with fail
  rw [HW.out]
  clear HW
  go_loopw [5, 6] (fun n i wr => ∃ k : Nat, k ≤ v.kids.length ∧ i = .int .i64 k ∧ ∃ q : Int, 1 ≤ q ∧ q ≤ 32000000 ∧ n = .int .i64 q ∧ Hid (CntOK (upK v.kids k) most q) ∧ Below w0.heap.size w0 wr) (fun _ i _ => v.kids.length - (intOf i).toNat)
  case atStart => exact ⟨0, by omega, rfl, 1, by omega, by omega, rfl, CntOK.one h0, Below.refl _ _⟩
  case round =>
    obtain ⟨k, hk, rfl, q, hq1, hq2, rfl, HQ, hb⟩ := hrel
    have hbw : Below w.heap.size w wr := below_aft hb0 hb hb0.size
    obtain ⟨f0, f1, f2⟩ := HXV.out.at_ hb
    have HLE := Lib.hid (upK_le v k hk)
    by_cases hlt : k < v.kids.length
    · have hi : (k : Int) < (v.kids.length : Int) := by omega
      by_cases hq : q ≤ most
      · obtain ⟨b, off, rfl, hbB, hvk⟩ := (HV.out.below hbw (Nat.le_refl _)).2 k hlt
        obtain ⟨d', hd, D', cp, c0, c1, c2, hm⟩ := hvk.parts
        have Hm : Hid (RVs d' wr wr.heap.size D' v.kids[k].kids) := hm.keep (fun _ _ => rfl) hbw.size
        have IHd := Lib.hid (IH.out d' hd)
        have HWK := Lib.hid (wV_kid v k hlt)
        have HS := Lib.hid (upK_succ v.kids k hlt)
        have HL2 := Lib.hid (upK_le v (k + 1) hlt)
        clear hm hvk hd
        go_wp2_with (go_at_call 124; refine (IHd.out _ _ v.kids[k] (most - q) _ Hm.out (by have := HWK.out; omega) (by omega) (by omega)).mono ?_; rintro e w1 ⟨r, rfl, hr, hb1⟩; have HR := Lib.hid hr; have hr1 := hr.2.2.1; have hr2 := hr.2.2.2; have hww := HWK.out; have HRL : Hid (r ≤ 16000001) := (by unfold Hid; push_cast at hr1; omega); clear hr hr1 hww; have hrl := HRL.out)
        have hc := HQ.out.step hq HR.out
        rw [← HS.out] at hc
        have hc3 := hc.2.2.1
        have hb2 := below_aft hb hb1 hb.size
        have hle := HL2.out
        go_roundw
        case rel => exact ⟨k + 1, by omega, by go_num, _, by omega, by omega, rfl, hc, hb2⟩
        case measure => simp [intOf]; omega
      · have hq' : most < q := by omega
        have HO : Hid (CntOK (1 + wV v) most q) := HQ.out.over hq' HLE.out
        go_wp2_with fail
        go_ret
        exact ⟨q, rfl, HO.out, hbw⟩
    · have he : k = v.kids.length := by omega
      have hi : (v.kids.length : Int) ≤ (k : Int) := by omega
      have HO : Hid (CntOK (1 + wV v) most q) := by unfold Hid; rw [← upK_all, ← he]; exact HQ.out
      clear he
      go_wp2_with fail
      go_ret
      exact ⟨q, rfl, HO.out, hbw⟩
theorem cntS_any : ∀ d, CntS d
  | 0 => cntS_of 0 (fun _ h => by omega)
  | d + 1 => cntS_of (d + 1) (fun d' h => (Nat.succ.inj h) ▸ cntS_any d)
theorem fitS_any (l : List Da) : ∀ d, d < 100 → FitS l d
  | 0, _ => fitS_zero l
  | d + 1, h => fitS_step l d (by omega) (fitS_any l d (by omega))
/-- A value of a type within the limits. -/
noncomputable def isV (l : List Da) (t : Ty) (v : Vl) : Bool := fitV l 10 t v && decide (1 + wV v ≤ 60)
theorem isV_fit {l : List Da} {t : Ty} {v : Vl} (h : fitV l 10 t v = false) : isV l t v = false := by unfold isV; rw [h]; rfl
theorem isV_yes {l : List Da} {t : Ty} {v : Vl} (h : fitV l 10 t v = true) (h' : 1 + wV v ≤ 60) : isV l t v = true := by unfold isV; rw [h, decide_eq_true h']; rfl
theorem isV_big {l : List Da} {t : Ty} {v : Vl} (h' : ¬ 1 + wV v ≤ 60) : isV l t v = false := by unfold isV; rw [decide_eq_false h']; simp
theorem isV_any (A D : Option Addr) (l : List Da) (cap ep e : Nat) (t : Ty) (v : Vl) (w : World) (hr : RDas w w.heap.size A l) (ht : TyOK l t) (hv : RVs e w w.heap.size D v.kids) (hn : wV v ≤ 16000000) :
    Calls Tryz.prog 61 #[.slice A l.length cap, .agg #[.int .i64 t.data, .int .i64 t.index], .agg #[.int .i64 v.ctor, .int .i64 v.n, .slice D v.kids.length ep]] w fun e w' => e = .returned (.bool (isV l t v)) ∧ Below w.heap.size w w' := by
  have Hr := Lib.hid hr
  have HV := Lib.hid hv
  have IF : Hid (FitC l 10 10) := fitS_any l 10 (by omega)
  clear hr hv
  generalize hw0 : (w.alloc (.cells #[.int .i64 t.data, .int .i64 t.index] 25)).alloc (.cells #[.int .i64 v.ctor, .int .i64 v.n, .slice D v.kids.length ep] 31) = w0
  have hb0 := below_box2 hw0
  have HXT : Hid (Bx w0 w.heap.size t) := by rw [← hw0]; exact ⟨by simp [go_sem], by simp [go_sem]⟩
  have HXV : Hid (VBx w0 (w.heap.size + 1) v.ctor v.n (.slice D v.kids.length ep)) := by rw [← hw0]; exact ⟨by simp [go_sem], by simp [go_sem], by simp [go_sem]⟩
  have HW := Lib.hid hw0
  clear hw0
  obtain ⟨x0, x1⟩ := HXT.out
  obtain ⟨y0, y1, y2⟩ := HXV.out
  by_cases hf : fitV l 10 t v = true
  · have HF := Lib.hid hf
    go_enter Tryz.func61, Tryz.ntmps61
    go_wp2_with (first | (go_at_call 123; rw [HW.out]; refine (IF.out.known A D cap ep e t v true _ HF.out (Hr.out.at_ hb0) ht (HV.out.at_ hb0)).mono ?_; rintro e1 w1 ⟨rfl, hb1⟩; obtain ⟨z0, z1, z2⟩ := HXV.out.at_ hb1; have hb1w := below_aft hb0 hb1 hb0.size) | (go_at_call 124; refine (cntS_any e D ep v 60 _ (HV.out.at_ hb1w) hn (by omega) (by omega)).mono ?_; rintro e2 w2 ⟨r, rfl, hr, hb2⟩; have HR := Lib.hid hr; clear hr))
    all_goals go_ret
    all_goals
      refine ⟨ret_bool ?_, below_aft hb1w hb2 hb1w.size⟩
      by_cases h60 : 1 + wV v ≤ 60
      · rw [isV_yes HF.out h60]
        have := HR.out.1 (by omega)
        simp only [decide_eq_true_eq]; omega
      · rw [isV_big h60]
        have := HR.out.2.1 (by omega)
        simp only [decide_eq_false_iff_not]; omega
  · have hf' : fitV l 10 t v = false := by simpa using hf
    have HF := Lib.hid hf'
    clear hf hf'
    go_enter Tryz.func61, Tryz.ntmps61
    go_wp2_with (go_at_call 123; rw [HW.out]; refine (IF.out.known A D cap ep e t v false _ HF.out (Hr.out.at_ hb0) ht (HV.out.at_ hb0)).mono ?_; rintro e1 w1 ⟨rfl, hb1⟩; have hb1w := below_aft hb0 hb1 hb0.size)
    go_ret
    exact ⟨ret_bool (isV_fit HF.out).symm, hb1w⟩
end Go.Proofs.YthdnfnmglhifmaaGreat
/-
  How many nodes a pattern has, up to a number: the document's function. No statement is proved here.
-/
namespace Go.Proofs.YthdnfnmglhifmaaGreat
open Go.RowKit Go.Sort Go.Deep
set_option maxRecDepth 100000
set_option linter.unusedVariables false
/-- The nodes of a pattern of which the first k parts have been counted. -/
def upKP (ks : List Pt) (k : Nat) : Nat := 1 + k + ((ks.take k).map wP).sum
theorem upKP_zero (ks : List Pt) : upKP ks 0 = 1 := rfl
theorem upKP_succ (ks : List Pt) (k : Nat) (h : k < ks.length) : upKP ks (k + 1) = upKP ks k + (1 + wP ks[k]) := by
  unfold upKP; rw [sum_take_succ wP ks k h]; omega
theorem upKP_all (v : Pt) : upKP v.kids v.kids.length = 1 + wP v := by
  unfold upKP; rw [List.take_length, wP_kids, wPs_sum]; omega
theorem upKP_le (v : Pt) (k : Nat) (h : k ≤ v.kids.length) : upKP v.kids k ≤ 1 + wP v := by
  have := sum_take_le wP v.kids k
  unfold upKP; rw [wP_kids, wPs_sum]; omega
theorem wP_kid (v : Pt) (k : Nat) (h : k < v.kids.length) : wP v.kids[k] ≤ wP v := by
  have h1 := upKP_le v (k + 1) h
  rw [upKP_succ _ _ h] at h1
  omega
def CntPS (d : Nat) : Prop := ∀ (D : Option Addr) (ep : Nat) (v : Pt) (most : Int) (w : World), RPs d w w.heap.size D v.kids → wP v ≤ 1048576 → 0 ≤ most → most ≤ 100 →
  Calls Tryz.prog 186 #[.agg #[.int .i64 v.op, .int .i64 v.ctor, .int .i64 v.n, .int .i64 v.m, .int .i64 v.var, .slice D v.kids.length ep], .int .i64 most] w (CntP (1 + wP v) most w)
set_option maxHeartbeats 800000 in
theorem cntPS_of (d : Nat) (ih : ∀ d', d = d' + 1 → CntPS d') : CntPS d := by
  intro D ep v most w hv hn h0 h1
  have hl := hv.1
  unfold maxLen at hl
  have HV := Lib.hid hv
  have IH := Lib.hid ih
  clear hv ih
  generalize hw0 : w.alloc (.cells #[.int .i64 v.op, .int .i64 v.ctor, .int .i64 v.n, .int .i64 v.m, .int .i64 v.var, .slice D v.kids.length ep] 28) = w0
  have hb0 : Below w.heap.size w w0 := by rw [← hw0]; exact (Below.refl _ _).alloc (Nat.le_refl _) _
  have HXV : Hid (PBx w0 w.heap.size v (.slice D v.kids.length ep)) := by rw [← hw0]; exact ⟨by simp [go_sem], by simp [go_sem], by simp [go_sem], by simp [go_sem], by simp [go_sem], by simp [go_sem]⟩
  have HW := Lib.hid hw0
  clear hw0
  go_enter Tryz.func186, Tryz.ntmps186
  go_wp2_with fail
  rw [HW.out]
  clear HW
  go_loopw [5, 6] (fun n i wr => ∃ k : Nat, k ≤ v.kids.length ∧ i = .int .i64 k ∧ ∃ q : Int, 1 ≤ q ∧ q ≤ 2000000 ∧ n = .int .i64 q ∧ Hid (CntOK (upKP v.kids k) most q) ∧ Below w0.heap.size w0 wr) (fun _ i _ => v.kids.length - (intOf i).toNat)
  case atStart => exact ⟨0, by omega, rfl, 1, by omega, by omega, rfl, CntOK.one h0, Below.refl _ _⟩
  case round =>
    obtain ⟨k, hk, rfl, q, hq1, hq2, rfl, HQ, hb⟩ := hrel
    have hbw : Below w.heap.size w wr := below_aft hb0 hb hb0.size
    obtain ⟨f0, f1, f2, f3, f4, f5⟩ := HXV.out.at_ hb
    have HLE := Lib.hid (upKP_le v k hk)
    by_cases hlt : k < v.kids.length
    · have hi : (k : Int) < (v.kids.length : Int) := by omega
      by_cases hq : q ≤ most
      · obtain ⟨b, off, rfl, hbB, hvk⟩ := (HV.out.below hbw (Nat.le_refl _)).2 k hlt
        obtain ⟨d', hd, D', cp, c0, c1, c2, c3, c4, c5, hm⟩ := hvk.parts
        have Hm : Hid (RPs d' wr wr.heap.size D' v.kids[k].kids) := hm.keep (fun _ _ => rfl) hbw.size
        have IHd := Lib.hid (IH.out d' hd)
        have HWK := Lib.hid (wP_kid v k hlt)
        have HS := Lib.hid (upKP_succ v.kids k hlt)
        have HL2 := Lib.hid (upKP_le v (k + 1) hlt)
        clear hm hvk hd
        go_wp2_with (go_at_call 186; refine (IHd.out _ _ v.kids[k] (most - q) _ Hm.out (by have := HWK.out; omega) (by omega) (by omega)).mono ?_; rintro e w1 ⟨r, rfl, hr, hb1⟩; have HR := Lib.hid hr; have hr1 := hr.2.2.1; have hr2 := hr.2.2.2; have hww := HWK.out; have HRL : Hid (r ≤ 1048577) := (by unfold Hid; push_cast at hr1; omega); clear hr hr1 hww; have hrl := HRL.out)
        have hc := HQ.out.step hq HR.out
        rw [← HS.out] at hc
        have hc3 := hc.2.2.1
        have hb2 := below_aft hb hb1 hb.size
        have hle := HL2.out
        go_roundw
        case rel => exact ⟨k + 1, by omega, by go_num, _, by omega, by omega, rfl, hc, hb2⟩
        case measure => simp [intOf]; omega
      · have hq' : most < q := by omega
        have HO : Hid (CntOK (1 + wP v) most q) := HQ.out.over hq' HLE.out
        go_wp2_with fail
        go_ret
        exact ⟨q, rfl, HO.out, hbw⟩
    · have he : k = v.kids.length := by omega
      have hi : (v.kids.length : Int) ≤ (k : Int) := by omega
      have HO : Hid (CntOK (1 + wP v) most q) := by unfold Hid; rw [← upKP_all, ← he]; exact HQ.out
      clear he
      go_wp2_with fail
      go_ret
      exact ⟨q, rfl, HO.out, hbw⟩
theorem cntPS_any : ∀ d, CntPS d
  | 0 => cntPS_of 0 (fun _ h => by omega)
  | d + 1 => cntPS_of (d + 1) (fun d' h => (Nat.succ.inj h) ▸ cntPS_any d)
end Go.Proofs.YthdnfnmglhifmaaGreat
/-
  When a tree has the shape of a pattern for a type: the document's function. No statement is proved here.
-/
namespace Go.Proofs.YthdnfnmglhifmaaGreat
open Go.RowKit Go.Sort Go.Deep
set_option maxRecDepth 100000
set_option linter.unusedVariables false
def ShC (l : List Da) (d : Nat) (z : Int) : Prop := ∀ (A D : Option Addr) (cap ep e : Nat) (t : Ty) (p : Pt) (w : World), RDas w w.heap.size A l → TyOK l t → RPs e w w.heap.size D p.kids →
  Calls Tryz.prog 185 #[.slice A l.length cap, .agg #[.int .i64 t.data, .int .i64 t.index], .agg #[.int .i64 p.op, .int .i64 p.ctor, .int .i64 p.n, .int .i64 p.m, .int .i64 p.var, .slice D p.kids.length ep], .int .i64 z] w fun e w' => e = .returned (.bool (shP l d t p)) ∧ Below w.heap.size w w'
def ShS (l : List Da) (d : Nat) : Prop := ShC l d (d : Nat)
theorem ShC.known {l : List Da} {d : Nat} {z : Int} (h : ShC l d z) (A D : Option Addr) (cap ep e : Nat) (t : Ty) (p : Pt) (b : Bool) (w : World) (hf : shP l d t p = b) (hr : RDas w w.heap.size A l) (ht : TyOK l t) (hv : RPs e w w.heap.size D p.kids) :
    Calls Tryz.prog 185 #[.slice A l.length cap, .agg #[.int .i64 t.data, .int .i64 t.index], .agg #[.int .i64 p.op, .int .i64 p.ctor, .int .i64 p.n, .int .i64 p.m, .int .i64 p.var, .slice D p.kids.length ep], .int .i64 z] w fun e w' => e = .returned (.bool b) ∧ Below w.heap.size w w' := by
  rw [← hf]; exact h A D cap ep e t p w hr ht hv
theorem shS_zero (l : List Da) : ShS l 0 := by
  intro A D cap ep e t p w hr ht hv
  have HB : Hid (∀ o o' : Obj, Below w.heap.size w ((w.alloc o).alloc o')) := fun o o' => ((Below.refl _ _).alloc (Nat.le_refl _) _).alloc (by simp) _
  clear hr ht hv
  go_enter Tryz.func185, Tryz.ntmps185
  go_wp2_with fail
  go_ret
  exact ⟨rfl, HB.out _ _⟩
set_option maxHeartbeats 3000000 in
theorem shS_step (l : List Da) (d : Nat) (hd : d < 100) (ih : ShS l d) : ShS l (d + 1) := by
  intro A D cap ep e t p w hr ht hv
  have hl := hv.1
  have Hr := Lib.hid hr
  have HT := Lib.hid ht
  have HV := Lib.hid hv
  unfold maxLen at hl
  generalize hz : ((d + 1 : Nat) : Int) = z
  have hz0 : 1 ≤ z := by omega
  have hz2 : z ≤ 101 := by omega
  have hz1 : decide (z < 1) = false := by simpa using hz0
  have IHz : Hid (ShC l d (z - 1)) := by unfold Hid; rw [show z - 1 = (d : Int) by omega]; exact ih
  clear hr ht hv ih hz
  generalize hw0 : (w.alloc (.cells #[.int .i64 t.data, .int .i64 t.index] 25)).alloc (.cells #[.int .i64 p.op, .int .i64 p.ctor, .int .i64 p.n, .int .i64 p.m, .int .i64 p.var, .slice D p.kids.length ep] 28) = w0
  have hb0 := below_box2 hw0
  have HXT : Hid (Bx w0 w.heap.size t) := by rw [← hw0]; exact ⟨by simp [go_sem], by simp [go_sem]⟩
  have HXP : Hid (PBx w0 (w.heap.size + 1) p (.slice D p.kids.length ep)) := by rw [← hw0]; exact ⟨by simp [go_sem], by simp [go_sem], by simp [go_sem], by simp [go_sem], by simp [go_sem], by simp [go_sem]⟩
  have HW := Lib.hid hw0
  clear hw0
  obtain ⟨x0, x1⟩ := HXT.out
  obtain ⟨y0, y1, y2, y3, y4, y5⟩ := HXP.out
  by_cases ho : OwnOK l t p
  · have HD := Lib.hid (dec_t ho)
    have hm3 := tysP_len l t p
    have HOK := Lib.hid (tysP_ok HT.out ho)
    have HAG : Hid (∀ w, RDas w w.heap.size A l → _) := fun w h => tys_any A D l cap ep t p w h HT.out ho.mem
    by_cases hk : p.kids.length = (tysP l t p).length
    · have HF := Lib.hid (shP_go (d := d) ho hk)
      have HK := Lib.hid (fun (i : Nat) (h : i < (tysP l t p).length) (h' : i < p.kids.length) => kidP_at (l := l) (d := d) h h')
      generalize hats : tysP l t p = ats at HF hm3 HOK HK HAG hk
      have hkI : ((p.kids.length : Int) != (ats.length : Int)) = false := by simp [hk]
      have HKL := Lib.hid hk
      clear ho hats hk
      go_enter Tryz.func185, Tryz.ntmps185
      go_wp2_with (first | (go_at_call 237; rw [HW.out]; refine (own_any A D l cap ep t p _ (Hr.out.at_ hb0) HT.out).mono ?_; rw [HD.out]; rintro e1 w1 ⟨rfl, hb1⟩; obtain ⟨u0, u1⟩ := HXT.out.at_ hb1; have HXP1 := Lib.hid (HXP.out.at_ hb1); obtain ⟨z0, z1, z2, z3, z4, z5⟩ := HXP1.out; have hb1w := below_aft hb0 hb1 hb0.size) | (go_at_call 159; refine (HAG.out _ (Hr.out.at_ hb1w)).mono ?_; rintro e3 w3 ⟨v3, rfl, ho3, hb3'⟩; obtain ⟨A3, c3, rfl, hr3⟩ := ho3.form (by unfold maxLen; omega); have HR3 := Lib.hid hr3; have HXP3 := Lib.hid (HXP1.out.at_ hb3'); obtain ⟨z0', z1', z2', z3', z4', z5'⟩ := HXP3.out; have hb3 := below_aft hb1w hb3' hb1w.size; clear hr3 ho3 hb3'))
      clear x0 x1 y0 y1 y2 y3 y4 y5 u0 u1 z0 z1 z2 z3 z4 z5 z0' z1' z2' z3' z4' z5'
      go_loopw [10] (fun i wr => ∃ k : Nat, k ≤ ats.length ∧ i = .int .i64 k ∧ Hid (upto (kidP l d ats p.kids) k = true) ∧ Below w3.heap.size w3 wr) (fun i _ => ats.length - (intOf i).toNat)
      case atStart => exact ⟨0, by omega, rfl, rfl, Below.refl _ _⟩
      case round =>
        obtain ⟨k, hk, rfl, HU, hb⟩ := hrel
        have hbw : Below w.heap.size w wr := below_aft hb3 hb hb3.size
        have HXPr := Lib.hid (HXP3.out.at_ hb)
        obtain ⟨f0, f1, f2, f3, f4, f5⟩ := HXPr.out
        by_cases hlt : k < ats.length
        · have hkl : k < p.kids.length := by rw [HKL.out]; exact hlt
          obtain ⟨g, o, rfl, hgB, t0, t1⟩ := (HR3.out.below hb (Nat.le_refl _)).2 k hlt
          obtain ⟨b, off, rfl, hbB, hvk⟩ := (HV.out.below hbw (Nat.le_refl _)).2 k hkl
          obtain ⟨e', he', D', cp, c0, c1, c2, c3', c4, c5, hm⟩ := hvk.parts
          have d0 := cell_regrown t0
          have d1 := cell_regrown t1
          have d2 := cell_regrown c0
          have d3 := cell_regrown c1
          have d4 := cell_regrown c2
          have d5 := cell_regrown c3'
          have d6 := cell_regrown c4
          have d7 := cell_regrown c5
          have d8 := cell_regrown f5
          have Hm : Hid (RPs e' wr wr.heap.size D' p.kids[k].kids) := hm.keep (fun _ _ => rfl) hbw.size
          have Hrr : Hid (RDas wr wr.heap.size A l) := Hr.out.at_ hbw
          have HTk := Lib.hid (HOK.out _ (List.getElem_mem hlt))
          have HKk := Lib.hid (HK.out k hlt hkl)
          have hi : (k : Int) < (ats.length : Int) := by omega
          have hi2 : (k : Int) < (p.kids.length : Int) := by omega
          have hzs : IntKind.i64.wrap (z - 1) = z - 1 := IntWalk.i64_in _ (by omega)
          clear c0 c1 c2 c3' c4 c5 t0 t1 f0 f1 f2 f3 f4 f5 hm hvk he'
          by_cases hf : shP l d ats[k] p.kids[k] = true
          · have HFk := Lib.hid hf
            have HUk : Hid (upto (kidP l d ats p.kids) (k + 1) = true) := upto_t HU.out (by rw [HKk.out]; exact hf)
            clear hf
            go_wp2_with fail
            refine wp_region_quiet_below (by kernel_rfl) (by kernel_rfl) ?_
            repeat (quiet_step (exact Calls.regrown_of (IHz.out.known _ _ _ _ _ _ _ _ _ HFk.out (Hrr.out.at_ (below_regrown wr _ _)) HTk.out (Hm.out.at_ (below_regrown wr _ _)))))
            refine wpQuiet_nil ?_
            intro _ hw'
            obtain ⟨⟨dq, osq⟩, hw''⟩ := hw'
            subst hw''
            have hb2 := hb.trans ((below_regrown wr dq osq).mono hb.size)
            clear d0 d1 d2 d3 d4 d5 d6 d7 d8
            go_wp2_with fail
            go_roundw
            case rel => exact ⟨k + 1, by omega, by go_num, HUk, hb2⟩
            case measure => simp [intOf]; omega
          · have hf' : shP l d ats[k] p.kids[k] = false := by simpa using hf
            have HFk := Lib.hid hf'
            have HUk := Lib.hid (upto_f (f := kidP l d ats p.kids) hlt (by rw [HKk.out]; exact hf'))
            clear hf hf'
            go_wp2_with fail
            refine wp_region_quiet_below (by kernel_rfl) (by kernel_rfl) ?_
            repeat (quiet_step (exact Calls.regrown_of (IHz.out.known _ _ _ _ _ _ _ _ _ HFk.out (Hrr.out.at_ (below_regrown wr _ _)) HTk.out (Hm.out.at_ (below_regrown wr _ _)))))
            refine wpQuiet_nil ?_
            intro _ hw'
            obtain ⟨⟨dq, osq⟩, hw''⟩ := hw'
            subst hw''
            have hb2 := hbw.trans ((below_regrown wr dq osq).mono hbw.size)
            clear d0 d1 d2 d3 d4 d5 d6 d7 d8
            go_wp2_with fail
            go_ret
            exact ⟨ret_bool (by rw [HF.out, HUk.out]), hb2⟩
        · have he : k = ats.length := by omega
          have HE : Hid (shP l (d + 1) t p = true) := by unfold Hid; rw [HF.out, ← he]; exact HU.out
          clear he
          go_wp2_with fail
          go_ret
          exact ⟨ret_bool HE.out.symm, hbw⟩
    · have HF := Lib.hid (shP_len (d := d) hk)
      generalize hats : tysP l t p = ats at HF hm3 HOK HAG hk
      have hkI : ((p.kids.length : Int) != (ats.length : Int)) = true := by simp; omega
      clear ho hats hk
      go_enter Tryz.func185, Tryz.ntmps185
      go_wp2_with (first | (go_at_call 237; rw [HW.out]; refine (own_any A D l cap ep t p _ (Hr.out.at_ hb0) HT.out).mono ?_; rw [HD.out]; rintro e1 w1 ⟨rfl, hb1⟩; obtain ⟨u0, u1⟩ := HXT.out.at_ hb1; have HXP1 := Lib.hid (HXP.out.at_ hb1); obtain ⟨z0, z1, z2, z3, z4, z5⟩ := HXP1.out; have hb1w := below_aft hb0 hb1 hb0.size) | (go_at_call 159; refine (HAG.out _ (Hr.out.at_ hb1w)).mono ?_; rintro e3 w3 ⟨v3, rfl, ho3, hb3'⟩; obtain ⟨A3, c3, rfl, hr3⟩ := ho3.form (by unfold maxLen; omega); have HR3 := Lib.hid hr3; have HXP3 := Lib.hid (HXP1.out.at_ hb3'); obtain ⟨z0', z1', z2', z3', z4', z5'⟩ := HXP3.out; have hb3 := below_aft hb1w hb3' hb1w.size; clear hr3 ho3 hb3'))
      go_ret
      exact ⟨ret_bool HF.out.symm, hb3⟩
  · have HF := Lib.hid (shP_own (d := d) ho)
    have HD := Lib.hid (dec_f ho)
    clear ho
    go_enter Tryz.func185, Tryz.ntmps185
    go_wp2_with (go_at_call 237; rw [HW.out]; refine (own_any A D l cap ep t p _ (Hr.out.at_ hb0) HT.out).mono ?_; rw [HD.out]; rintro e1 w1 ⟨rfl, hb1⟩; obtain ⟨u0, u1⟩ := HXT.out.at_ hb1; have HXP1 := Lib.hid (HXP.out.at_ hb1); obtain ⟨z0, z1, z2, z3, z4, z5⟩ := HXP1.out; have hb1w := below_aft hb0 hb1 hb0.size)
    go_ret
    exact ⟨ret_bool HF.out.symm, hb1w⟩
theorem shS_any (l : List Da) : ∀ d, d < 100 → ShS l d
  | 0, _ => shS_zero l
  | d + 1, h => shS_step l d (by omega) (shS_any l d (by omega))
end Go.Proofs.YthdnfnmglhifmaaGreat
/-
  An append to a row of the call's own, as one operation of a region. No statement is proved here.
-/
namespace Go.Proofs.YthdnfnmglhifmaaGreat
open Go.RowKit
set_option maxRecDepth 100000
set_option linter.unusedVariables false
theorem wp_append_own {P : Program} {o : Oper} {a : Act} {w : World} {K : Act → World → Prop} {Q : Exit → Act → World → Prop} (s x : Operand) (t : TypeId)
    (ho : o.op = .call { callee := .builtin .append, args := #[s, x], argTypes := #[t, t] })
    (base : Nat) (e : TypeId) (i : TypeInfo) (z : Value) (size bytes : Nat) (ht : P.underlying t = some (.slice e)) (hi : P.info? e = some i) (hz : i.zero = some z)
    (hsize : i.size = size) (hby : i.bytes = bytes) (hzs : z.cells.size = size) (hsz : 0 < size)
    (v : Value) (n : Nat) (xs : List Value) (hs : a.eval s = v) (hown : w.ownsRow base e size v n xs)
    (ad : Addr) (m c : Nat) (news : List Value) (hx : a.eval x = .slice (some ad) m c) (hl : news.length = m * size) (hnews : ∀ j u, news[j]? = some u → w.cell? (ad.add j) = some u) (h1 : ∀ u ∈ news, u.oneCell' = true)
    (h63 : n + m ≤ maxLen) (hbytes : (n + m) * bytes ≤ 140737488355328) (hbase : base ≤ w.heap.size)
    (h : ∀ v' w', w'.ownsRow base e size v' (n + m) (xs ++ news) → w.grownBy w' v.ownBlock → (v'.ownBlock = v.ownBlock ∨ v'.ownBlock = some w.heap.size) → K (a.put o.dst v') w') : o.wp P a w K Q := by
  obtain ⟨v', w', hr, h2, h3, _, h5⟩ := run_append_own_at (P := P) w base t o.type e i z size bytes ht hi hz hsize hby hzs hsz v n xs hown ad m c news hl hnews h1 h63 hbytes hbase
  unfold Oper.wp execOp
  simp only [ho, resolve, invoke, builtin, Sem.run_bind, Sem.run_pure, Result.andThen_ok, List.map_toArray, List.map_cons, List.map_nil, hs, hx, hr]
  exact h v' w' h2 h3 h5
theorem own_at {w w' : World} {base : Nat} {e : TypeId} {size n : Nat} {v : Value} {xs : List Value} (h : w.ownsRow base e size v n xs) (hk : ∀ b, v.ownBlock = some b → w'.heap[b]? = w.heap[b]?) : w'.ownsRow base e size v n xs := by
  refine ⟨h.1, ?_⟩
  rcases h.2 with h0 | ⟨g, cap, cur, a1, a2, a3, a4⟩
  · exact .inl h0
  · exact .inr ⟨g, cap, cur, a1, a2, (hk g (by rw [a1]; rfl)).trans a3, a4⟩
theorem own_form {w : World} {base : Nat} {e : TypeId} {size n : Nat} {v : Value} {xs : List Value} (h : w.ownsRow base e size v n xs) : ∃ A c, v = .slice A n c ∧ ∀ b, v.ownBlock = some b → base ≤ b ∧ b < w.heap.size := by
  rcases h.2 with ⟨rfl, rfl⟩ | ⟨g, cap, cur, rfl, a2, a3, a4⟩
  · exact ⟨none, 0, rfl, fun b e => by cases e⟩
  · exact ⟨_, _, rfl, fun b e => by injection e with e; subst e; exact ⟨a2, heap_lt a3⟩⟩
end Go.Proofs.YthdnfnmglhifmaaGreat
