/-
  PatternValid and PatternVars of the program. No statement is proved here.
-/
import Derived.Test.YthdnfnmglhifmaaGreatR19
import Derived.Test.YthdnfnmglhifmaaGreatR07
import Derived.Test.YthdnfnmglhifmaaGreatR06
import Derived.Test.YthdnfnmglhifmaaGreatR14
import Derived.Test.YthdnfnmglhifmaaGreatR13
import Derived.Test.YthdnfnmglhifmaaGreatR02
import Derived.Deep.RegionHeld3
import Derived.Lib.QuietBelow
import Derived.Outline
import Derived.WalkLawsBesides
import Derived.Maps.OwnSet
import Derived.DeepKeys5
import Derived.Deep.QuietTactic
namespace Go.Proofs.YthdnfnmglhifmaaGreat
open Go.RowKit Go.Sort Go.Deep
set_option maxRecDepth 100000
set_option linter.unusedVariables false
theorem voZ_any (l : List Da) : ∀ d : Nat, d ≤ 20 → VoZ l d (d : Int)
  | 0, _ => fun A D cap ep e lo g n t p w hr ht hv hc hn => by
    by_cases ho : OwnOK l t p
    · exact vo_zero l A D cap ep e lo g n t p w hr ht hv hc hn ho
    · exact vo_own l 0 _ A D cap ep e lo g n t p w hr ht hv hc hn ho
  | d + 1, hd => fun A D cap ep e lo g n t p w hr ht hv hc hn => by
    have ih := voZ_any l d (by omega)
    have hz : ((d + 1 : Nat) : Int) - 1 = (d : Int) := by omega
    have hq : (((d + 1 : Nat) : Int) == 0) = false := ieq_f (by omega)
    by_cases ho : OwnOK l t p
    · by_cases hb : 60 < n + 1
      · exact vo_big l (d + 1) _ hq A D cap ep e lo g n t p w hr ht hv hc hn ho hb
      · by_cases hl : p.kids.length = (tysP l t p).length
        · exact vo_step l d _ (by omega) (by omega) (by rw [hz]; exact ih) A D cap ep e lo g n t p w hr ht hv hc hn ho (by omega) hl
        · exact vo_len l (d + 1) _ hq A D cap ep e lo g n t p w hr ht hv hc hn ho (by omega) hl
    · exact vo_own l (d + 1) _ A D cap ep e lo g n t p w hr ht hv hc hn ho
def ChQ (l : List Da) (t : Ty) (p : Pt) (w : World) (b : Bool) (e : Ending) (w' : World) : Prop := ∃ A' n' c', e = .returned (.tuple #[.slice A' n' c', .bool b]) ∧ (b = true → OVt w' w.heap.size (.slice A' n' c') (vrP l 10 t p)) ∧ Below w.heap.size w w'
theorem ChQ.no {l : List Da} {t : Ty} {p : Pt} {w w' : World} {b : Bool} (hf : b = false) (hb : Below w.heap.size w w') : ChQ l t p w b (.returned (.tuple #[.slice none 0 0, .bool false])) w' := ⟨none, 0, 0, by rw [hf], (fun h => by rw [hf] at h; cases h), hb⟩
set_option maxHeartbeats 1600000 in
theorem check_any (A D : Option Addr) (l : List Da) (cap ep e : Nat) (t : Ty) (p : Pt) (w : World) (hr : RDas w w.heap.size A l) (hv : RPs e w w.heap.size D p.kids) :
    Calls Tryz.prog 64 #[.slice A l.length cap, .agg #[.int .i64 t.data, .int .i64 t.index], .agg #[.int .i64 p.op, .int .i64 p.ctor, .int .i64 p.n, .int .i64 p.m, .int .i64 p.var, .slice D p.kids.length ep]] w (ChQ l t p w (pvT l t p)) := by
  have Hr := Lib.hid hr
  have HV := Lib.hid hv
  clear hr hv
  generalize hw0 : (w.alloc (.cells #[.int .i64 t.data, .int .i64 t.index] 25)).alloc (.cells #[.int .i64 p.op, .int .i64 p.ctor, .int .i64 p.n, .int .i64 p.m, .int .i64 p.var, .slice D p.kids.length ep] 28) = w0
  have hb0 := below_box2 hw0
  have HXT : Hid (Bx w0 w.heap.size t) := by rw [← hw0]; exact ⟨by simp [go_sem], by simp [go_sem]⟩
  have HXP : Hid (PBx w0 (w.heap.size + 1) p (.slice D p.kids.length ep)) := by rw [← hw0]; exact ⟨by simp [go_sem], by simp [go_sem], by simp [go_sem], by simp [go_sem], by simp [go_sem], by simp [go_sem]⟩
  have HW := Lib.hid hw0
  clear hw0
  obtain ⟨u0, u1⟩ := HXT.out
  by_cases ht : TyOK l t
  · have HT := Lib.hid ht
    have HF : Hid (okP l 10 t p 0 = pvT l t p) := by unfold Hid; rw [pvT_yes ht, okP_is]
    clear ht
    go_enter Tryz.func64, Tryz.ntmps64
    go_wp2_with (go_at_call 65; rw [HW.out]; refine (typeI_yes (t := t) (Hr.out.at_ hb0) HT.out).mono ?_; rintro e1 w1 ⟨rfl, hb1⟩; have HXT1 := Lib.hid (HXT.out.at_ hb1); have HXP1 := Lib.hid (HXP.out.at_ hb1); obtain ⟨x0, x1⟩ := HXT1.out; obtain ⟨y0, y1, y2, y3, y4, y5⟩ := HXP1.out; have hb1w := below_aft hb0 hb1 hb0.size; have hlt0 : w.heap.size < w1.heap.size := Go.block_lt_of_cell x0; have hlt1 : w.heap.size + 1 < w1.heap.size := Go.block_lt_of_cell y0)
    have hbA : Below w1.heap.size w1 (w1.alloc (.cells #[.slice A l.length cap, .int .i64 0] 187)) := (Below.refl _ _).alloc (Nat.le_refl _) _
    have hck : CkB (w1.alloc (.cells #[.slice A l.length cap, .int .i64 0] 187)) w1.heap.size w1.heap.size A l.length cap 0 := World.ownsRow_lit w1 #[.slice A l.length cap, .int .i64 0] 1 (Nat.le_refl _) (by unfold maxLen; omega) rfl
    have HVO := Lib.hid (voZ_any l 10 (by omega) A D cap ep e w1.heap.size w1.heap.size 0 t p _ ((Hr.out.at_ hb1w).below hbA (Nat.le_refl _)) HT.out ((HV.out.at_ hb1w).below hbA (Nat.le_refl _)) hck (by omega))
    clear hck
    go_wp2_with (go_at_call 126; refine HVO.out.mono ?_; rw [HF.out]; rintro e2 w2 ⟨A2, n2, c2, rfl, hy2, hg2⟩; have HY2 := Lib.hid (fun h => (hy2 h).1); have HG2 := Lib.hid hg2; clear hy2 hg2)
    go_ret2
    have hs1 := hb1w.size
    have hsA := hbA.size
    have hg3 : Below w1.heap.size w1 w2 := hbA.trans (grown_low HG2.out (fun q e => by have := Option.some.inj e; omega) hsA)
    exact ⟨A2, n2, c2, rfl, fun h => (HY2.out h).lower (by omega), hb1w.trans (hg3.mono hs1)⟩
  · have HT := Lib.hid ht
    have HF := Lib.hid (pvT_no (p := p) ht)
    clear ht
    go_enter Tryz.func64, Tryz.ntmps64
    go_wp2_with (go_at_call 65; rw [HW.out]; refine (typeI_no (t := t) (Hr.out.at_ hb0) HT.out).mono ?_; rintro e1 w1 ⟨rfl, hb1⟩; have hb1w := below_aft hb0 hb1 hb0.size)
    go_ret2
    exact ChQ.no HF.out hb1w
theorem ChQ.known {l : List Da} {t : Ty} {p : Pt} {w : World} {b : Bool} (hf : pvT l t p = b) {P : Program} {f : Nat} {args : Array Value} (h : Calls P f args w (ChQ l t p w (pvT l t p))) : Calls P f args w (ChQ l t p w b) := by rw [← hf]; exact h
theorem pv_impl (A D : Option Addr) (l : List Da) (cap ep e : Nat) (t : Ty) (p : Pt) (w : World) (hr : RDas w w.heap.size A l) (hv : RPs e w w.heap.size D p.kids) :
    Calls Tryz.prog 19 #[.slice A l.length cap, .agg #[.int .i64 t.data, .int .i64 t.index], .agg #[.int .i64 p.op, .int .i64 p.ctor, .int .i64 p.n, .int .i64 p.m, .int .i64 p.var, .slice D p.kids.length ep]] w fun e w' => e = .returned (.bool (pvT l t p)) ∧ Below w.heap.size w w' := by
  have Hr := Lib.hid hr
  have HV := Lib.hid hv
  clear hr hv
  generalize hw0 : (w.alloc (.cells #[.int .i64 t.data, .int .i64 t.index] 25)).alloc (.cells #[.int .i64 p.op, .int .i64 p.ctor, .int .i64 p.n, .int .i64 p.m, .int .i64 p.var, .slice D p.kids.length ep] 28) = w0
  have hb0 := below_box2 hw0
  have HXT : Hid (Bx w0 w.heap.size t) := by rw [← hw0]; exact ⟨by simp [go_sem], by simp [go_sem]⟩
  have HXP : Hid (PBx w0 (w.heap.size + 1) p (.slice D p.kids.length ep)) := by rw [← hw0]; exact ⟨by simp [go_sem], by simp [go_sem], by simp [go_sem], by simp [go_sem], by simp [go_sem], by simp [go_sem]⟩
  have HW := Lib.hid hw0
  clear hw0
  go_enter Tryz.func19, Tryz.ntmps19
  go_wp2_with (go_at_call 64; rw [HW.out]; refine (check_any A D l cap ep e t p w0 (Hr.out.at_ hb0) (HV.out.at_ hb0)).mono ?_; rintro e1 w1 ⟨A1, n1, c1, rfl, hy1, hb1⟩; clear hy1; have hb1w := below_aft hb0 hb1 hb0.size)
  go_ret
  exact ⟨rfl, hb1w⟩
theorem pvT_sh {l : List Da} {t : Ty} {p : Pt} (h : pvT l t p = true) : shP l 10 t p = true ∧ 1 + wP p ≤ 60 := by
  unfold pvT isP at h
  rw [Bool.and_eq_true, Bool.and_eq_true, Bool.and_eq_true] at h
  exact ⟨h.2.1, of_decide_eq_true h.2.2.1⟩
end Go.Proofs.YthdnfnmglhifmaaGreat
/-
  The value of least depth: the document's function. No statement is proved here.
-/
namespace Go.Proofs.YthdnfnmglhifmaaGreat
open Go.RowKit Go.Sort Go.Deep
set_option maxRecDepth 100000
set_option linter.unusedVariables false
theorem cell_three_new (w : World) (x y z : Value) (t : TypeId) : ∀ j u, [x, y, z][j]? = some u → (w.alloc (.cells #[x, y, z] t)).cell? ((⟨w.heap.size, 0, none⟩ : Addr).add j) = some u := by
  intro j u hj
  match j, hj with
  | 0, hj => simp at hj; subst hj; simp [Addr.add, go_sem]
  | 1, hj => simp at hj; subst hj; simp [Addr.add, go_sem]
  | 2, hj => simp at hj; subst hj; simp [Addr.add, go_sem]
end Go.Proofs.YthdnfnmglhifmaaGreat
/-
  Whether some value matches a pattern: the program's method. No statement is proved here.
-/
namespace Go.Proofs.YthdnfnmglhifmaaGreat
open Go.RowKit Go.Sort Go.Deep
set_option maxRecDepth 100000
set_option linter.unusedVariables false
theorem below_box3 {w w' : World} {o o' o'' : Obj} (h : ((w.alloc o).alloc o').alloc o'' = w') : Below w.heap.size w w' := by
  rw [← h]; exact (((Below.refl _ _).alloc (Nat.le_refl _) _).alloc (by simp) _).alloc (by simp <;> omega) _
end Go.Proofs.YthdnfnmglhifmaaGreat
