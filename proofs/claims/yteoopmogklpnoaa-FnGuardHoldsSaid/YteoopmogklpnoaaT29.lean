/-
  The types of the parts of a pattern: the document's function. No statement is proved here.
-/
import Derived.Test.YteoopmogklpnoaaT28
import Derived.Test.YteoopmogklpnoaaT24
import Derived.Test.YteoopmogklpnoaaT00
import Derived.Laws.StructEq
import Derived.BigQuiet
namespace Go.Proofs.Yteoopmogklpnoaa
open Go.RowKit Go.Sort Go.Deep
set_option maxRecDepth 100000
set_option linter.unusedVariables false
set_option maxHeartbeats 1600000 in
theorem tys_any (A D : Option Addr) (l : List Da) (cap ep : Nat) (t : Ty) (p : Pt) (w : World) (hr : RDas w w.heap.size A l) (ht : TyOK l t) (hm : p.op = 4 → p.ctor ∈ ctR l t) :
    Calls Try.prog 102 #[.slice A l.length cap, .agg #[.int .i64 t.data, .int .i64 t.index], .agg #[.int .i64 p.op, .int .i64 p.ctor, .int .i64 p.n, .int .i64 p.m, .int .i64 p.var, .slice D p.kids.length ep]] w fun e w' => ∃ v, e = .returned v ∧ OTys w' w.heap.size v (tysP l t p) (tysP l t p).length ∧ Below w.heap.size w w' := by
  have Hr := Lib.hid hr
  clear hr
  generalize hw0 : (w.alloc (.cells #[.int .i64 t.data, .int .i64 t.index] 25)).alloc (.cells #[.int .i64 p.op, .int .i64 p.ctor, .int .i64 p.n, .int .i64 p.m, .int .i64 p.var, .slice D p.kids.length ep] 50) = w0
  have hb0 := below_box2 hw0
  have HXT : Hid (Bx w0 w.heap.size t) := by rw [← hw0]; exact ⟨by simp [go_sem], by simp [go_sem]⟩
  have HXP : Hid (PBx w0 (w.heap.size + 1) p (.slice D p.kids.length ep)) := by rw [← hw0]; exact ⟨by simp [go_sem], by simp [go_sem], by simp [go_sem], by simp [go_sem], by simp [go_sem], by simp [go_sem]⟩
  have hs0 : w0.heap.size = w.heap.size + 2 := by rw [← hw0]; simp
  have HW := Lib.hid hw0
  clear hw0
  obtain ⟨x0, x1⟩ := HXT.out
  obtain ⟨y0, y1, y2, y3, y4, y5⟩ := HXP.out
  by_cases h4 : p.op = 4
  · have q4 := ieq_t h4
    have HC := Lib.hid (hm h4)
    have HT := Lib.hid (tysP_ctor (l := l) (t := t) h4)
    clear h4 hm
    go_enter Try.func102, Try.ntmps102
    go_wp2_with fail
    rw [HW.out]
    refine (l1Args_all A l cap t p.ctor _ (Hr.out.at_ hb0) HC.out).mono ?_
    rintro e w1 ⟨v, rfl, ho, hb1⟩
    have HO := Lib.hid (ho.lower hb0.size)
    have hb := below_aft hb0 hb1 hb0.size
    clear ho hb1
    go_wp2_with fail
    go_ret
    exact ⟨_, rfl, by rw [HT.out]; exact HO.out, hb⟩
  · obtain ⟨i0, hi, hz0, hz1, hz2⟩ := info_parts info34
    have q4 := ieq_f h4
    have HT := Lib.hid (tysP_other (l := l) (t := t) h4)
    have HKD := Lib.hid (kids_any p.op · h4)
    have hk2 := kidN_le p.op
    have HRL : Hid ((List.replicate (kidN p.op) t).length = kidN p.op) := List.length_replicate
    clear h4 hm ht
    have HO0 : Hid ((w0.alloc (.cells #[] 25)).ownsRow (w.heap.size + 2) 25 2 (.slice (some ⟨w.heap.size + 2, 0, none⟩) 0 0) 0 []) := by
      have h := World.ownsRow_lit (base := w.heap.size + 2) (e := 25) (size := 2) w0 #[] 0 (by omega) (by simp) rfl
      rw [hs0] at h
      unfold Hid
      simpa using h
    have hba : Below w.heap.size w (w0.alloc (.cells #[] 25)) := hb0.alloc hb0.size _
    have HXT1 : Hid (Bx (w0.alloc (.cells #[] 25)) w.heap.size t) := HXT.out.at_ ((Below.refl _ _).alloc (Nat.le_refl _) _)
    have HXP1 : Hid (PBx (w0.alloc (.cells #[] 25)) (w.heap.size + 1) p (.slice D p.kids.length ep)) := HXP.out.at_ ((Below.refl _ _).alloc (Nat.le_refl _) _)
    go_enter Try.func102, Try.ntmps102
    go_wp2_with fail
    rw [HW.out]
    clear x0 x1 y0 y1 y2 y3 y4 y5 hs0
    generalize (w0.alloc (.cells #[] 25)) = wa at *
    go_loopw [7, 8] (fun v i wr => ∃ k : Nat, k ≤ kidN p.op ∧ i = .int .i64 k ∧ Hid (OTys wr (w.heap.size + 2) v (List.replicate (kidN p.op) t) k) ∧ Below w.heap.size w wr ∧ Bx wr w.heap.size t ∧ PBx wr (w.heap.size + 1) p (.slice D p.kids.length ep)) (fun _ i _ => kidN p.op - (intOf i).toNat)
    case atStart => exact ⟨0, by omega, rfl, ⟨_, HO0.out, TyRow.zero _ _⟩, hba, HXT1.out, HXP1.out⟩
    case round =>
      obtain ⟨k, hk, rfl, HO, hb, ⟨x0, x1⟩, hpx⟩ := hrel
      obtain ⟨y0, y1, y2, y3, y4, y5⟩ := hpx
      by_cases hlt : k < kidN p.op
      · have hkI : (k : Int) < (kidN p.op : Int) := by omega
        obtain ⟨xs, hown, hrow⟩ := HO.out
        have HOW := Lib.hid hown
        have hxl := hown.1
        have hsz := hb.size
        have hrow2 := hrow.snoc (by rw [HRL.out]; exact hlt) hxl
        rw [List.getElem_replicate] at hrow2
        have HRW := Lib.hid hrow2
        have hbx0 := Go.block_lt_of_cell x0
        have hbx1 := Go.block_lt_of_cell y0
        have hlo := (fun g e => (hown.lt g e).1 : ∀ g, u7.ownBlock = some g → w.heap.size + 2 ≤ g)
        clear hown hrow hxl hrow2 HO0 HO
        go_wp2_with (first | (go_at_call 129; refine (HKD.out _).mono ?_; rintro e w1 ⟨rfl, rfl⟩) | (at_builtin; refine wpList_append_own _ rfl _ _ 32 rfl (w.heap.size + 2) 25 i0 (.agg #[.int .i64 0, .int .i64 0]) 2 16 Try.underlying32 hi hz0 hz1 hz2 rfl (by decide) _ _ _ rfl (HOW.out.alloc _) ⟨wr.heap.size, 0, none⟩ 1 1 [.int .i64 t.data, .int .i64 t.index] rfl rfl ?c1 ?c2 ?c3 ?c4 ?c5 ?_))
        case c1 => exact cell_two_new _ _ _ _
        case c2 => intro u hu; simp at hu; rcases hu with rfl | rfl <;> rfl
        case c3 => unfold maxLen; omega
        case c4 => omega
        case c5 => simp; omega
        intro v' w1 hown' hgrow hnn
        have hb3 : Below w.heap.size w w1 := (hb.alloc hsz _).grown hgrow (by simp; omega) (fun g' e => by have := hlo g' e; omega)
        have hk0 : w1.heap[w.heap.size]? = wr.heap[w.heap.size]? := by
          rw [hgrow.block w.heap.size (by simp; omega) (fun e => by have := hlo _ e.symm; omega), Below.heap_alloc _ _ _ hbx0]
        have hk1 : w1.heap[w.heap.size + 1]? = wr.heap[w.heap.size + 1]? := by
          rw [hgrow.block (w.heap.size + 1) (by simp; omega) (fun e => by have := hlo _ e.symm; omega), Below.heap_alloc _ _ _ hbx1]
        have hX : Bx w1 w.heap.size t := ⟨(World.cell?_of_block (a := ⟨w.heap.size, 0, none⟩) hk0).trans x0, (World.cell?_of_block (a := ⟨w.heap.size, 1, none⟩) hk0).trans x1⟩
        have hP : PBx w1 (w.heap.size + 1) p (.slice D p.kids.length ep) := PBx.keep ⟨y0, y1, y2, y3, y4, y5⟩ hk1
        have HO3 : Hid (OTys w1 (w.heap.size + 2) v' (List.replicate (kidN p.op) t) (k + 1)) := ⟨_, hown', HRW.out⟩
        clear hown' hgrow hnn hk0 hk1 x0 x1 y0 y1 y2 y3 y4 y5
        go_wp2_with fail
        go_roundw
        case rel => exact ⟨k + 1, by omega, by go_num, HO3.out, hb3, hX, hP⟩
        case measure => simp [intOf]; omega
      · have hkI : (kidN p.op : Int) ≤ (k : Int) := by omega
        have hke : k = kidN p.op := by omega
        have HF : Hid (OTys wr w.heap.size u7 (tysP l t p) (tysP l t p).length) := by
          unfold Hid
          refine OTys.lower (lo := w.heap.size + 2) ?_ (by omega)
          rw [HT.out, HRL.out, ← hke]
          rw [← hke] at HO
          exact HO.out
        clear hke
        go_wp2_with fail
        refine (HKD.out wr).mono ?_
        rintro e w1 ⟨rfl, rfl⟩
        go_wp2_with fail
        go_ret
        exact ⟨_, rfl, HF.out, hb⟩
end Go.Proofs.Yteoopmogklpnoaa
/-
  Rows of variables with their types: the place of a variable, and when two have the same: the document's functions. No statement is proved here.
-/
namespace Go.Proofs.Yteoopmogklpnoaa
open Go.RowKit Go.Sort Go.Deep
set_option maxRecDepth 100000
set_option linter.unusedVariables false
/-- Are the two equal? -/
noncomputable def eqv {α : Type} (a b : α) : Bool := @decide (a = b) (Classical.propDecidable _)
theorem eqv_t {α : Type} {a b : α} (h : a = b) : eqv a b = true := by unfold eqv; simp [h]
theorem eqv_f {α : Type} {a b : α} (h : ¬ a = b) : eqv a b = false := by unfold eqv; simp [h]
theorem neqTy_no (t : Ty) (w : World) : (Go.binOp .neq 25 (.agg #[.int .i64 t.data, .int .i64 t.index]) (.agg #[.int .i64 t.data, .int .i64 t.index])).run Try.prog w = .ok (.bool false) w := by
  have hS : Try.prog.underlying 25 = some (.struct (Try.prog.fieldsOf 25)) := by kernel_rfl
  have hp : Try.prog.stoodInHeld 25 = false := by kernel_rfl
  have u3 := Try.underlying3
  have a3 := Try.isAgg3
  have z3 := Try.sizeOf3
  rw [run_neq_struct, show (10000 : Nat) = 9999 + 1 from rfl, run_equalIn_agg w 9999 25 _ _ hS hp]
  simp only [Program.fieldsOf, Try.underlying25]
  go_simp
theorem neqTy_yes (t u : Ty) (h : t ≠ u) (w : World) : (Go.binOp .neq 25 (.agg #[.int .i64 t.data, .int .i64 t.index]) (.agg #[.int .i64 u.data, .int .i64 u.index])).run Try.prog w = .ok (.bool true) w := by
  have hS : Try.prog.underlying 25 = some (.struct (Try.prog.fieldsOf 25)) := by kernel_rfl
  have hp : Try.prog.stoodInHeld 25 = false := by kernel_rfl
  have u3 := Try.underlying3
  have a3 := Try.isAgg3
  have z3 := Try.sizeOf3
  rw [run_neq_struct, show (10000 : Nat) = 9999 + 1 from rfl, run_equalIn_agg w 9999 25 _ _ hS hp]
  simp only [Program.fieldsOf, Try.underlying25]
  obtain ⟨a, b⟩ := t
  obtain ⟨c, d⟩ := u
  have h' : ¬ (a = c ∧ b = d) := fun ⟨e1, e2⟩ => h (by rw [e1, e2])
  go_simp
  by_cases h1 : a = c <;> by_cases h2 : b = d <;> simp_all
theorem guardTy (x y : Operand) (xs ys : Array Value) (w : World) : (eqGuard .neq 25 x y (.agg xs) (.agg ys)).run Try.prog w = .ok () w := run_eqGuard_agg (P := Try.prog) w .neq 25 x y xs ys (by kernel_rfl)
structure Vt where
  var : Int
  ty : Ty
deriving Inhabited
def RVt (w : World) (b o : Nat) (x : Vt) : Prop := w.cell? ⟨b, o, none⟩ = some (.int .i64 x.var) ∧ w.cell? ⟨b, o + 1, none⟩ = some (.int .i64 x.ty.data) ∧ w.cell? ⟨b, o + 1 + 1, none⟩ = some (.int .i64 x.ty.index)
def RVts (w : World) (B : Nat) (A : Option Addr) (l : List Vt) : Prop := l.length ≤ maxLen ∧ ∀ k (h : k < l.length), ∃ b off, A = some ⟨b, off, none⟩ ∧ b < B ∧ RVt w b (off + k * 3) l[k]
theorem RVts.keep {w w' : World} {B B' : Nat} {A : Option Addr} {l : List Vt} (h : RVts w B A l) (hk : ∀ p : Addr, p.block < B → w'.cell? p = w.cell? p) (hB : B ≤ B') : RVts w' B' A l :=
  ⟨h.1, fun k hk' => by
    obtain ⟨b, off, e, hb, h1, h2, h3⟩ := h.2 k hk'
    exact ⟨b, off, e, by omega, (hk _ hb).trans h1, (hk _ hb).trans h2, (hk _ hb).trans h3⟩⟩
theorem RVts.at_ {w w' : World} {A : Option Addr} {l : List Vt} (h : RVts w w.heap.size A l) (hb : Below w.heap.size w w') : RVts w' w'.heap.size A l := h.keep (fun _ hp => hb.cell hp) hb.size
/-- The place of a variable, or -1. -/
def findV (L : List Vt) (n : Int) : Int := if L.findIdx (fun x => x.var == n) < L.length then (L.findIdx (fun x => x.var == n) : Nat) else -1
def NoV (L : List Vt) (n : Int) (k : Nat) : Prop := ∀ j (h : j < L.length), j < k → ¬ L[j].var = n
theorem NoV.zero (L : List Vt) (n : Int) : NoV L n 0 := fun j _ h => absurd h (by omega)
theorem NoV.step {L : List Vt} {n : Int} {k : Nat} (h : NoV L n k) (hk : k < L.length) (e : ¬ L[k].var = n) : NoV L n (k + 1) := by
  intro j hj hjk
  by_cases e' : j = k
  · subst e'; exact e
  · exact h j hj (by omega)
theorem findV_at {L : List Vt} {n : Int} {k : Nat} (h : NoV L n k) (hk : k < L.length) (e : L[k].var = n) : findV L n = k := by
  have h1 : L.findIdx (fun x => x.var == n) = k := (List.findIdx_eq hk).2 ⟨by simpa using e, fun j hj => by simpa using h j (by omega) hj⟩
  unfold findV; rw [h1, if_pos hk]
theorem findV_no {L : List Vt} {n : Int} (h : NoV L n L.length) : findV L n = -1 := by
  have h1 : L.findIdx (fun x => x.var == n) = L.length := List.findIdx_eq_length.2 (fun x hx => by
    obtain ⟨j, hj, rfl⟩ := List.mem_iff_getElem.1 hx
    simpa using h j hj hj)
  unfold findV; rw [h1, if_neg (by omega)]
theorem findV_cases (L : List Vt) (n : Int) : findV L n = -1 ∨ ∃ k : Nat, k < L.length ∧ findV L n = k := by
  unfold findV
  by_cases h : L.findIdx (fun x => x.var == n) < L.length
  · exact .inr ⟨_, h, if_pos h⟩
  · exact .inl (if_neg h)
theorem findVt_any (A : Option Addr) (L : List Vt) (cap : Nat) (n : Int) (w : World) (hr : RVts w w.heap.size A L) :
    Calls Try.prog 134 #[.slice A L.length cap, .int .i64 n] w fun e w' => e = .returned (.int .i64 (findV L n)) ∧ w = w' := by
  have hn := hr.1
  unfold maxLen at hn
  have Hr := Lib.hid hr
  clear hr
  go_enter Try.func134, Try.ntmps134
  go_wp2_with fail
  go_loopw [5] (fun i wr => ∃ k : Nat, k ≤ L.length ∧ i = .int .i64 k ∧ Hid (NoV L n k) ∧ w = wr) (fun i _ => L.length - (intOf i).toNat)
  case atStart => exact ⟨0, by omega, rfl, NoV.zero _ _, rfl⟩
  case round =>
    obtain ⟨k, hk, rfl, hno, rfl⟩ := hrel
    by_cases hlt : k < L.length
    · obtain ⟨b, off, rfl, _, c0, _⟩ := Hr.out.2 k hlt
      by_cases he : L[k].var = n
      · have q := ieq_t he
        have HI : Hid (findV L n = k) := findV_at hno.out hlt he
        clear he
        go_wp2_with fail
        go_ret
        exact ⟨ret_i64 (by rw [HI.out]), rfl⟩
      · have q := ieq_f he
        have HN : Hid (NoV L n (k + 1)) := hno.out.step hlt he
        clear he
        go_wp2_with fail
        go_roundw
        case rel => exact ⟨k + 1, by omega, by go_num, HN.out, trivial⟩
        case measure => simp [intOf]; omega
    · have he : k = L.length := by omega
      have HI : Hid (findV L n = -1) := findV_no (by rw [← he]; exact hno.out)
      clear he
      go_wp2_with fail
      go_ret
      exact ⟨ret_i64 (by rw [HI.out]), rfl⟩
/-- The k-th of the first list is in the second, with the same type. -/
noncomputable def alV (a b : List Vt) (i : Nat) : Bool := decide (0 ≤ findV b (a.getD i default).var) && eqv (b.getD (findV b (a.getD i default).var).toNat default).ty (a.getD i default).ty
noncomputable def alike (a b : List Vt) : Bool := upto (alV a b) a.length && decide (a.length = b.length)
theorem getDv_at {α : Type} [Inhabited α] (l : List α) (i : Nat) (h : i < l.length) : l.getD i default = l[i] := by
  rw [List.getD_eq_getElem?_getD, List.getElem?_eq_getElem h]; rfl
theorem alV_no {a b : List Vt} {i : Nat} (h : i < a.length) (hf : findV b a[i].var = -1) : alV a b i = false := by
  unfold alV; rw [getDv_at a i h, hf]; rfl
theorem alV_yes {a b : List Vt} {i k : Nat} (h : i < a.length) (hk : k < b.length) (hf : findV b a[i].var = k) : alV a b i = eqv b[k].ty a[i].ty := by
  unfold alV; rw [getDv_at a i h, hf, decide_eq_true (by omega), Int.toNat_natCast, getDv_at b k hk]; rfl
set_option maxHeartbeats 800000 in
theorem alike_any (A A' : Option Addr) (a b : List Vt) (cap cap' : Nat) (w : World) (hr : RVts w w.heap.size A a) (hr' : RVts w w.heap.size A' b) :
    Calls Try.prog 133 #[.slice A a.length cap, .slice A' b.length cap'] w fun e w' => e = .returned (.bool (alike a b)) ∧ Below w.heap.size w w' := by
  have hn := hr.1
  have hn' := hr'.1
  unfold maxLen at hn hn'
  have Hr := Lib.hid hr
  have Hr' := Lib.hid hr'
  clear hr hr'
  have gd := guardTy
  go_enter Try.func133, Try.ntmps133
  go_wp2_with fail
  go_loopw [5, 6] (fun i _ wr => ∃ k : Nat, k ≤ a.length ∧ i = .int .i64 k ∧ Hid (upto (alV a b) k = true) ∧ Below w.heap.size w wr) (fun i _ _ => a.length - (intOf i).toNat)
  case atStart => exact ⟨0, by omega, rfl, rfl, Below.refl _ _⟩
  case round =>
    obtain ⟨k, hk, rfl, HU, hb⟩ := hrel
    have hb2 : ∀ n, Below w.heap.size w (wr.drewN n) := fun n => below_drawn hb n
    have HB2 := Lib.hid hb2
    by_cases hlt : k < a.length
    · have hi : (k : Int) < (a.length : Int) := by omega
      have HFI := Lib.hid (findVt_any A' b cap' a[k].var wr (Hr'.out.at_ hb))
      obtain ⟨b1, o1, rfl, _, c0, c1, c2⟩ := (Hr.out.at_ hb).2 k hlt
      rcases findV_cases b a[k].var with hf | ⟨j, hj, hf⟩
      · have HA := Lib.hid (upto_f (f := alV a b) hlt (alV_no hlt hf))
        rw [hf] at HFI
        clear hf hb2
        go_wp2_with (go_at_call 134; refine HFI.out.mono ?_; rintro e w1 ⟨rfl, rfl⟩)
        go_quiet (fail)
        go_wp2_with fail
        go_ret
        exact ⟨ret_bool (by unfold alike; rw [HA.out]; rfl), HB2.out _⟩
      · have HA := Lib.hid (alV_yes hlt hj hf)
        obtain ⟨b2, o2, rfl, _, d0, d1, d2⟩ := (Hr'.out.at_ hb).2 j hj
        have hj2 : (j : Int) < (b.length : Int) := by omega
        have hj0 : decide ((j : Int) < 0) = false := by simp
        rw [hf] at HFI
        clear hf hb2
        by_cases he : b[j].ty = a[k].ty
        · have hq := neqTy_no b[j].ty
          have HN : Hid (upto (alV a b) (k + 1) = true) := upto_t HU.out (by rw [HA.out, eqv_t he])
          rw [← he] at c1 c2
          clear he
          go_wp2_with (go_at_call 134; refine HFI.out.mono ?_; rintro e w1 ⟨rfl, rfl⟩)
          go_quiet (fail)
          go_wp2_with fail
          go_roundw
          case rel => exact ⟨k + 1, by omega, by go_num, HN, HB2.out _⟩
          case measure => simp [intOf]; omega
        · have hq := neqTy_yes b[j].ty a[k].ty he
          have HN := Lib.hid (upto_f (f := alV a b) hlt (by rw [HA.out, eqv_f he]))
          clear he
          go_wp2_with (go_at_call 134; refine HFI.out.mono ?_; rintro e w1 ⟨rfl, rfl⟩)
          go_quiet (fail)
          go_wp2_with fail
          go_ret
          exact ⟨ret_bool (by unfold alike; rw [HN.out]; rfl), HB2.out _⟩
    · have he : k = a.length := by omega
      have HE : Hid (upto (alV a b) a.length = true) := by unfold Hid; rw [← he]; exact HU.out
      clear he hb2
      by_cases hl : a.length = b.length
      · have q : ((a.length : Int) == (b.length : Int)) = true := by simp [hl]
        have HL : Hid (alike a b = true) := by unfold Hid alike; rw [HE.out, decide_eq_true hl]; rfl
        clear hl
        go_wp2_with fail
        go_ret
        exact ⟨ret_bool HL.out.symm, hb⟩
      · have q : ((a.length : Int) == (b.length : Int)) = false := by simp; omega
        have HL : Hid (alike a b = false) := by unfold Hid alike; rw [decide_eq_false hl]; simp
        clear hl
        go_wp2_with fail
        go_ret
        exact ⟨ret_bool HL.out.symm, hb⟩
end Go.Proofs.Yteoopmogklpnoaa
/-
  How many nodes a pattern has, up to a number: the document's function. No statement is proved here.
-/
namespace Go.Proofs.Yteoopmogklpnoaa
open Go.RowKit Go.Sort Go.Deep
set_option maxRecDepth 100000
set_option linter.unusedVariables false
/-- The nodes of a pattern of which the first k parts have been counted. -/
def upKP (ks : List Pt) (k : Nat) : Nat := 1 + k + ((ks.take k).map wP).sum
theorem upKP_zero (ks : List Pt) : upKP ks 0 = 1 := rfl
theorem upKP_succ (ks : List Pt) (k : Nat) (h : k < ks.length) : upKP ks (k + 1) = upKP ks k + (1 + wP ks[k]) := by
  unfold upKP; rw [sum_take_succ wP ks k h]; omega
theorem upKP_all (v : Pt) : upKP v.kids v.kids.length = 1 + wP v := by
  unfold upKP; rw [List.take_length, wP_kids, wPs_sum]; omega
theorem upKP_le (v : Pt) (k : Nat) (h : k ≤ v.kids.length) : upKP v.kids k ≤ 1 + wP v := by
  have := sum_take_le wP v.kids k
  unfold upKP; rw [wP_kids, wPs_sum]; omega
theorem wP_kid (v : Pt) (k : Nat) (h : k < v.kids.length) : wP v.kids[k] ≤ wP v := by
  have h1 := upKP_le v (k + 1) h
  rw [upKP_succ _ _ h] at h1
  omega
def CntPS (d : Nat) : Prop := ∀ (D : Option Addr) (ep : Nat) (v : Pt) (most : Int) (w : World), RPs d w w.heap.size D v.kids → wP v ≤ 1048576 → 0 ≤ most → most ≤ 100 →
  Calls Try.prog 107 #[.agg #[.int .i64 v.op, .int .i64 v.ctor, .int .i64 v.n, .int .i64 v.m, .int .i64 v.var, .slice D v.kids.length ep], .int .i64 most] w (CntP (1 + wP v) most w)
set_option maxHeartbeats 800000 in
theorem cntPS_of (d : Nat) (ih : ∀ d', d = d' + 1 → CntPS d') : CntPS d := by
  intro D ep v most w hv hn h0 h1
  have hl := hv.1
  unfold maxLen at hl
  have HV := Lib.hid hv
  have IH := Lib.hid ih
  clear hv ih
  generalize hw0 : w.alloc (.cells #[.int .i64 v.op, .int .i64 v.ctor, .int .i64 v.n, .int .i64 v.m, .int .i64 v.var, .slice D v.kids.length ep] 50) = w0
  have hb0 : Below w.heap.size w w0 := by rw [← hw0]; exact (Below.refl _ _).alloc (Nat.le_refl _) _
  have HXV : Hid (PBx w0 w.heap.size v (.slice D v.kids.length ep)) := by rw [← hw0]; exact ⟨by simp [go_sem], by simp [go_sem], by simp [go_sem], by simp [go_sem], by simp [go_sem], by simp [go_sem]⟩
  have HW := Lib.hid hw0
  clear hw0
  go_enter Try.func107, Try.ntmps107
  go_wp2_with fail
  rw [HW.out]
  clear HW
  go_loopw [5, 6] (fun n i wr => ∃ k : Nat, k ≤ v.kids.length ∧ i = .int .i64 k ∧ ∃ q : Int, 1 ≤ q ∧ q ≤ 2000000 ∧ n = .int .i64 q ∧ Hid (CntOK (upKP v.kids k) most q) ∧ Below w0.heap.size w0 wr) (fun _ i _ => v.kids.length - (intOf i).toNat)
  case atStart => exact ⟨0, by omega, rfl, 1, by omega, by omega, rfl, CntOK.one h0, Below.refl _ _⟩
  case round =>
    obtain ⟨k, hk, rfl, q, hq1, hq2, rfl, HQ, hb⟩ := hrel
    have hbw : Below w.heap.size w wr := below_aft hb0 hb hb0.size
    obtain ⟨f0, f1, f2, f3, f4, f5⟩ := HXV.out.at_ hb
    have HLE := Lib.hid (upKP_le v k hk)
    by_cases hlt : k < v.kids.length
    · have hi : (k : Int) < (v.kids.length : Int) := by omega
      by_cases hq : q ≤ most
      · obtain ⟨b, off, rfl, hbB, hvk⟩ := (HV.out.below hbw (Nat.le_refl _)).2 k hlt
        obtain ⟨d', hd, D', cp, c0, c1, c2, c3, c4, c5, hm⟩ := hvk.parts
        have Hm : Hid (RPs d' wr wr.heap.size D' v.kids[k].kids) := hm.keep (fun _ _ => rfl) hbw.size
        have IHd := Lib.hid (IH.out d' hd)
        have HWK := Lib.hid (wP_kid v k hlt)
        have HS := Lib.hid (upKP_succ v.kids k hlt)
        have HL2 := Lib.hid (upKP_le v (k + 1) hlt)
        clear hm hvk hd
        go_wp2_with (go_at_call 107; refine (IHd.out _ _ v.kids[k] (most - q) _ Hm.out (by have := HWK.out; omega) (by omega) (by omega)).mono ?_; rintro e w1 ⟨r, rfl, hr, hb1⟩; have HR := Lib.hid hr; have hr1 := hr.2.2.1; have hr2 := hr.2.2.2; have hww := HWK.out; have HRL : Hid (r ≤ 1048577) := (by unfold Hid; push_cast at hr1; omega); clear hr hr1 hww; have hrl := HRL.out)
        have hc := HQ.out.step hq HR.out
        rw [← HS.out] at hc
        have hc3 := hc.2.2.1
        have hb2 := below_aft hb hb1 hb.size
        have hle := HL2.out
        go_roundw
        case rel => exact ⟨k + 1, by omega, by go_num, _, by omega, by omega, rfl, hc, hb2⟩
        case measure => simp [intOf]; omega
      · have hq' : most < q := by omega
        have HO : Hid (CntOK (1 + wP v) most q) := HQ.out.over hq' HLE.out
        go_wp2_with fail
        go_ret
        exact ⟨q, rfl, HO.out, hbw⟩
    · have he : k = v.kids.length := by omega
      have hi : (v.kids.length : Int) ≤ (k : Int) := by omega
      have HO : Hid (CntOK (1 + wP v) most q) := by unfold Hid; rw [← upKP_all, ← he]; exact HQ.out
      clear he
      go_wp2_with fail
      go_ret
      exact ⟨q, rfl, HO.out, hbw⟩
theorem cntPS_any : ∀ d, CntPS d
  | 0 => cntPS_of 0 (fun _ h => by omega)
  | d + 1 => cntPS_of (d + 1) (fun d' h => (Nat.succ.inj h) ▸ cntPS_any d)
end Go.Proofs.Yteoopmogklpnoaa
