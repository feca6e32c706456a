/-
  What the variables of a pattern stand for: the program's functions. No statement is proved here.
-/
import Derived.Test.YthdnfnmglhifmaaGreatR14
import Derived.Test.YthdnfnmglhifmaaGreatR15
import Derived.Test.YthdnfnmglhifmaaGreatR20
import Derived.Test.YthdnfnmglhifmaaGreatR16
import Derived.Deep.RegionHeld3
import Derived.Deep.DeepCutAuto
import Derived.Lib.QuietBelow
namespace Go.Proofs.YthdnfnmglhifmaaGreat
open Go.RowKit Go.Sort Go.Deep
set_option maxRecDepth 100000
set_option linter.unusedVariables false
/-- What is returned: a row of the call's own, and whether the value matches. -/
def BfQ (e' B N : Nat) (o : Option (List Bn)) (w : World) (E : Ending) (w' : World) : Prop := ∃ u b L, E = .returned (.tuple #[u, .bool b]) ∧ OBr e' w' w.heap.size B u L ∧ b = o.isSome ∧ (∀ L0, o = some L0 → L = L0) ∧ L.length ≤ N ∧ Below w.heap.size w w'
/-- A row of the call's own, where the value matches. -/
theorem BfQ.some_ {e' B N : Nat} {L0 : List Bn} {w w' : World} {E : Ending} (h : BfQ e' B N (some L0) w E w') : ∃ u, E = .returned (.tuple #[u, .bool true]) ∧ OBr e' w' w.heap.size B u L0 ∧ L0.length ≤ N ∧ Below w.heap.size w w' := by
  obtain ⟨u, b, L, he, ho, hb, hL, hn, hw⟩ := h
  have := hL L0 rfl
  subst this hb
  exact ⟨u, he, ho, hn, hw⟩
theorem BfQ.none_ {e' B N : Nat} {w w' : World} {E : Ending} (h : BfQ e' B N none w E w') : ∃ u L, E = .returned (.tuple #[u, .bool false]) ∧ OBr e' w' w.heap.size B u L ∧ L.length ≤ N ∧ Below w.heap.size w w' := by
  obtain ⟨u, b, L, he, ho, hb, hL, hn, hw⟩ := h
  subst hb
  exact ⟨u, L, he, ho, hn, hw⟩
theorem BfQ.no {e' B N : Nat} {o : Option (List Bn)} {w w' : World} (h : o = none) (hb : Below w.heap.size w w') : BfQ e' B N o w (.returned (.tuple #[.slice none 0 0, .bool false])) w' := by
  subst h; exact ⟨_, _, [], rfl, OBr.nil _ _ _ _, rfl, (fun L0 h => by cases h), Nat.zero_le _, hb⟩
theorem cell_four_new (w : World) (x y z u : Value) (t : TypeId) : ∀ j q, [x, y, z, u][j]? = some q → (w.alloc (.cells #[x, y, z, u] t)).cell? ((⟨w.heap.size, 0, none⟩ : Addr).add j) = some q := by
  intro j q hj
  match j, hj with
  | 0, hj => simp at hj; subst hj; simp [Addr.add, go_sem]
  | 1, hj => simp at hj; subst hj; simp [Addr.add, go_sem]
  | 2, hj => simp at hj; subst hj; simp [Addr.add, go_sem]
  | 3, hj => simp at hj; subst hj; simp [Addr.add, go_sem]
def BfC (l : List Da) (d : Nat) : Prop := ∀ (n e e' B : Nat) (D E : Option Addr) (ep ev : Nat) (t : Ty) (p : Pt) (v : Vl) (w : World), shP l d t p = true → fitV l n t v = true → RPs e w B D p.kids → RVs e' w B E v.kids → B ≤ w.heap.size → wP p ≤ 100 →
  Calls Tryz.prog 55 #[.agg #[.int .i64 p.op, .int .i64 p.ctor, .int .i64 p.n, .int .i64 p.m, .int .i64 p.var, .slice D p.kids.length ep], .agg #[.int .i64 v.ctor, .int .i64 v.n, .slice E v.kids.length ev]] w (BfQ e' B (1 + wP p) (mtI d p v) w)
def BkC (l : List Da) (d : Nat) : Prop := ∀ (n e e' B : Nat) (D E : Option Addr) (ep ev : Nat) (ats : List Ty) (ps : List Pt) (vs : List Vl) (w : World), ps.length = ats.length → vs.length = ats.length → (∀ i (h : i < ats.length) (h' : i < ps.length), shP l d ats[i] ps[i] = true) → (∀ i (h : i < ats.length) (h' : i < vs.length), fitV l n ats[i] vs[i] = true) → RPs e w B D ps → RVs e' w B E vs → B ≤ w.heap.size → wPs ps ≤ 100 →
  Calls Tryz.prog 117 #[.slice D ps.length ep, .slice E vs.length ev] w (BfQ e' B (wPs ps) (catO (kidB d ps vs) ps.length) w)
set_option maxHeartbeats 4000000 in
theorem bf_1 (l : List Da) (d : Nat) (ih : BfC l d) (n e e' B : Nat) (D E : Option Addr) (ep ev : Nat) (t : Ty) (p : Pt) (v : Vl) (w : World) (hs : shP l (d + 1) t p = true) (hf : fitV l n t v = true) (hp : RPs e w B D p.kids) (hv : RVs e' w B E v.kids) (hB : B ≤ w.heap.size) (hN : wP p ≤ 100) (hop : p.op = 1) :
    Calls Tryz.prog 55 #[.agg #[.int .i64 p.op, .int .i64 p.ctor, .int .i64 p.n, .int .i64 p.m, .int .i64 p.var, .slice D p.kids.length ep], .agg #[.int .i64 v.ctor, .int .i64 v.n, .slice E v.kids.length ev]] w (BfQ e' B (1 + wP p) (mtI (d + 1) p v) w) := by
  have hl := hp.1
  have hlv := hv.1
  unfold maxLen at hl hlv
  have HP := Lib.hid hp
  have HV := Lib.hid hv
  have HF := Lib.hid hf
  have IH := Lib.hid ih
  have u1 := ieq_t hop
  have u2 : (p.op == 2) = false := ieq_f (by omega)
  have u3 : (p.op == 3) = false := ieq_f (by omega)
  have u4 : (p.op == 4) = false := ieq_f (by omega)
  have u5 : (p.op == 5) = false := ieq_f (by omega)
  have u6 : (p.op == 6) = false := ieq_f (by omega)
  have HM := Lib.hid (mtI_any (d := d) (p := p) (v := v) hop)
  generalize hwx : (w.alloc (.cells #[.int .i64 p.op, .int .i64 p.ctor, .int .i64 p.n, .int .i64 p.m, .int .i64 p.var, .slice D p.kids.length ep] 28)).alloc (.cells #[.int .i64 v.ctor, .int .i64 v.n, .slice E v.kids.length ev] 31) = wx
  have hbx : Below w.heap.size w wx := below_box2 hwx
  have hsx : w.heap.size + 2 ≤ wx.heap.size := by rw [← hwx]; simp
  have HXP : Hid (PBx wx w.heap.size p (.slice D p.kids.length ep)) := by rw [← hwx]; exact ⟨by simp [go_sem], by simp [go_sem], by simp [go_sem], by simp [go_sem], by simp [go_sem], by simp [go_sem]⟩
  have HXV : Hid (VBx wx (w.heap.size + 1) v.ctor v.n (.slice E v.kids.length ev)) := by rw [← hwx]; exact ⟨by simp [go_sem], by simp [go_sem], by simp [go_sem]⟩
  have HSX : Hid (w.heap.size + 1 + 1 = wx.heap.size) := by unfold Hid; rw [← hwx]; simp
  have HW := Lib.hid hwx
  clear hs hf hp hv ih hop hwx
  obtain ⟨y0, y1, y2, y3, y4, y5⟩ := HXP.out
  obtain ⟨z0, z1, z2⟩ := HXV.out
  go_enter Tryz.func55, Tryz.ntmps55
  go_wp2_with fail
  rw [HW.out]
  go_ret2
  exact ⟨_, _, [], rfl, OBr.nil _ _ _ _, by rw [HM.out]; rfl, fun L0 h => by rw [HM.out] at h; exact Option.some.inj h, by simp, hbx⟩
set_option maxHeartbeats 4000000 in
theorem bf_2 (l : List Da) (d : Nat) (ih : BfC l d) (n e e' B : Nat) (D E : Option Addr) (ep ev : Nat) (t : Ty) (p : Pt) (v : Vl) (w : World) (hs : shP l (d + 1) t p = true) (hf : fitV l n t v = true) (hp : RPs e w B D p.kids) (hv : RVs e' w B E v.kids) (hB : B ≤ w.heap.size) (hN : wP p ≤ 100) (hop : p.op = 2) :
    Calls Tryz.prog 55 #[.agg #[.int .i64 p.op, .int .i64 p.ctor, .int .i64 p.n, .int .i64 p.m, .int .i64 p.var, .slice D p.kids.length ep], .agg #[.int .i64 v.ctor, .int .i64 v.n, .slice E v.kids.length ev]] w (BfQ e' B (1 + wP p) (mtI (d + 1) p v) w) := by
  have hl := hp.1
  have hlv := hv.1
  unfold maxLen at hl hlv
  have HP := Lib.hid hp
  have HV := Lib.hid hv
  have HF := Lib.hid hf
  have IH := Lib.hid ih
  have u1 : (p.op == 1) = false := ieq_f (by omega)
  have u2 := ieq_t hop
  have u3 : (p.op == 3) = false := ieq_f (by omega)
  have u4 : (p.op == 4) = false := ieq_f (by omega)
  have u5 : (p.op == 5) = false := ieq_f (by omega)
  have u6 : (p.op == 6) = false := ieq_f (by omega)
  have HM := Lib.hid (mtI_var (d := d) (p := p) (v := v) hop)
  generalize hwx : (w.alloc (.cells #[.int .i64 p.op, .int .i64 p.ctor, .int .i64 p.n, .int .i64 p.m, .int .i64 p.var, .slice D p.kids.length ep] 28)).alloc (.cells #[.int .i64 v.ctor, .int .i64 v.n, .slice E v.kids.length ev] 31) = wx
  have hbx : Below w.heap.size w wx := below_box2 hwx
  have hsx : w.heap.size + 2 ≤ wx.heap.size := by rw [← hwx]; simp
  have HXP : Hid (PBx wx w.heap.size p (.slice D p.kids.length ep)) := by rw [← hwx]; exact ⟨by simp [go_sem], by simp [go_sem], by simp [go_sem], by simp [go_sem], by simp [go_sem], by simp [go_sem]⟩
  have HXV : Hid (VBx wx (w.heap.size + 1) v.ctor v.n (.slice E v.kids.length ev)) := by rw [← hwx]; exact ⟨by simp [go_sem], by simp [go_sem], by simp [go_sem]⟩
  have HSX : Hid (w.heap.size + 1 + 1 = wx.heap.size) := by unfold Hid; rw [← hwx]; simp
  have HW := Lib.hid hwx
  clear hs hf hp hv ih hop hwx
  obtain ⟨y0, y1, y2, y3, y4, y5⟩ := HXP.out
  obtain ⟨z0, z1, z2⟩ := HXV.out
  go_enter Tryz.func55, Tryz.ntmps55
  go_wp2_with fail
  rw [HW.out]
  rw [HSX.out]
  go_ret2
  have hown := World.ownsRow_lit (base := w.heap.size) (e := 41) (size := 4) wx #[.int .i64 p.var, .int .i64 v.ctor, .int .i64 v.n, .slice E v.kids.length ev] 1 (by omega) (by unfold maxLen; omega) rfl
  refine ⟨_, _, [⟨p.var, v⟩], rfl, ⟨_, hown, ?_⟩, by rw [HM.out]; rfl, fun L0 h => by rw [HM.out] at h; exact Option.some.inj h, by simp, hbx.alloc hbx.size _⟩
  exact RBr.single _ _ (HV.out.keep (fun q hq => by rw [World.cell?_alloc_lt _ _ _ (by omega)]; exact hbx.cell (p := q) (by omega)) (Nat.le_refl _))
set_option maxHeartbeats 4000000 in
theorem bf_3a (l : List Da) (d : Nat) (ih : BfC l d) (n e e' B : Nat) (D E : Option Addr) (ep ev : Nat) (t : Ty) (p : Pt) (v : Vl) (w : World) (hs : shP l (d + 1) t p = true) (hf : fitV l n t v = true) (hp : RPs e w B D p.kids) (hv : RVs e' w B E v.kids) (hB : B ≤ w.heap.size) (hN : wP p ≤ 100) (h1 : p.n ≤ v.n) (h2 : v.n ≤ p.m) (hop : p.op = 3) :
    Calls Tryz.prog 55 #[.agg #[.int .i64 p.op, .int .i64 p.ctor, .int .i64 p.n, .int .i64 p.m, .int .i64 p.var, .slice D p.kids.length ep], .agg #[.int .i64 v.ctor, .int .i64 v.n, .slice E v.kids.length ev]] w (BfQ e' B (1 + wP p) (mtI (d + 1) p v) w) := by
  have hl := hp.1
  have hlv := hv.1
  unfold maxLen at hl hlv
  have HP := Lib.hid hp
  have HV := Lib.hid hv
  have HF := Lib.hid hf
  have IH := Lib.hid ih
  have u1 : (p.op == 1) = false := ieq_f (by omega)
  have u2 : (p.op == 2) = false := ieq_f (by omega)
  have u3 := ieq_t hop
  have u4 : (p.op == 4) = false := ieq_f (by omega)
  have u5 : (p.op == 5) = false := ieq_f (by omega)
  have u6 : (p.op == 6) = false := ieq_f (by omega)
  have q1 : decide (p.n ≤ v.n) = true := decide_eq_true h1
  have q2 : decide (v.n ≤ p.m) = true := decide_eq_true h2
  have HM := Lib.hid (mtI_in (d := d) (p := p) (v := v) hop h1 h2)
  clear h1 h2
  generalize hwx : (w.alloc (.cells #[.int .i64 p.op, .int .i64 p.ctor, .int .i64 p.n, .int .i64 p.m, .int .i64 p.var, .slice D p.kids.length ep] 28)).alloc (.cells #[.int .i64 v.ctor, .int .i64 v.n, .slice E v.kids.length ev] 31) = wx
  have hbx : Below w.heap.size w wx := below_box2 hwx
  have hsx : w.heap.size + 2 ≤ wx.heap.size := by rw [← hwx]; simp
  have HXP : Hid (PBx wx w.heap.size p (.slice D p.kids.length ep)) := by rw [← hwx]; exact ⟨by simp [go_sem], by simp [go_sem], by simp [go_sem], by simp [go_sem], by simp [go_sem], by simp [go_sem]⟩
  have HXV : Hid (VBx wx (w.heap.size + 1) v.ctor v.n (.slice E v.kids.length ev)) := by rw [← hwx]; exact ⟨by simp [go_sem], by simp [go_sem], by simp [go_sem]⟩
  have HSX : Hid (w.heap.size + 1 + 1 = wx.heap.size) := by unfold Hid; rw [← hwx]; simp
  have HW := Lib.hid hwx
  clear hs hf hp hv ih hop hwx
  obtain ⟨y0, y1, y2, y3, y4, y5⟩ := HXP.out
  obtain ⟨z0, z1, z2⟩ := HXV.out
  go_enter Tryz.func55, Tryz.ntmps55
  go_wp2_with fail
  rw [HW.out]
  have g0 := cell_regrown y2
  have g1 := cell_regrown y3
  have g2 := cell_regrown z1
  refine wp_region_quiet_below (by kernel_rfl) (by kernel_rfl) ?_
  repeat (quiet_step (fail))
  refine wpQuiet_nil ?_
  intro w2 hw'
  have hb2 : Below wx.heap.size wx w2 := by obtain ⟨⟨dq, osq⟩, h⟩ := hw'; subst h; exact below_regrown wx dq osq
  have hbw := below_aft hbx hb2 hbx.size
  clear hw' g0 g1 g2
  go_wp2_with fail
  go_ret2
  exact ⟨_, _, [], rfl, OBr.nil _ _ _ _, by rw [HM.out]; rfl, fun L0 h => by rw [HM.out] at h; exact Option.some.inj h, by simp, hbw⟩
set_option maxHeartbeats 4000000 in
theorem bf_3b (l : List Da) (d : Nat) (ih : BfC l d) (n e e' B : Nat) (D E : Option Addr) (ep ev : Nat) (t : Ty) (p : Pt) (v : Vl) (w : World) (hs : shP l (d + 1) t p = true) (hf : fitV l n t v = true) (hp : RPs e w B D p.kids) (hv : RVs e' w B E v.kids) (hB : B ≤ w.heap.size) (hN : wP p ≤ 100) (h1 : ¬ p.n ≤ v.n) (hop : p.op = 3) :
    Calls Tryz.prog 55 #[.agg #[.int .i64 p.op, .int .i64 p.ctor, .int .i64 p.n, .int .i64 p.m, .int .i64 p.var, .slice D p.kids.length ep], .agg #[.int .i64 v.ctor, .int .i64 v.n, .slice E v.kids.length ev]] w (BfQ e' B (1 + wP p) (mtI (d + 1) p v) w) := by
  have hl := hp.1
  have hlv := hv.1
  unfold maxLen at hl hlv
  have HP := Lib.hid hp
  have HV := Lib.hid hv
  have HF := Lib.hid hf
  have IH := Lib.hid ih
  have u1 : (p.op == 1) = false := ieq_f (by omega)
  have u2 : (p.op == 2) = false := ieq_f (by omega)
  have u3 := ieq_t hop
  have u4 : (p.op == 4) = false := ieq_f (by omega)
  have u5 : (p.op == 5) = false := ieq_f (by omega)
  have u6 : (p.op == 6) = false := ieq_f (by omega)
  have q1 : decide (p.n ≤ v.n) = false := decide_eq_false h1
  have HM := Lib.hid (mtI_out (d := d) (p := p) (v := v) hop (fun h => h1 h.1))
  clear h1
  generalize hwx : (w.alloc (.cells #[.int .i64 p.op, .int .i64 p.ctor, .int .i64 p.n, .int .i64 p.m, .int .i64 p.var, .slice D p.kids.length ep] 28)).alloc (.cells #[.int .i64 v.ctor, .int .i64 v.n, .slice E v.kids.length ev] 31) = wx
  have hbx : Below w.heap.size w wx := below_box2 hwx
  have hsx : w.heap.size + 2 ≤ wx.heap.size := by rw [← hwx]; simp
  have HXP : Hid (PBx wx w.heap.size p (.slice D p.kids.length ep)) := by rw [← hwx]; exact ⟨by simp [go_sem], by simp [go_sem], by simp [go_sem], by simp [go_sem], by simp [go_sem], by simp [go_sem]⟩
  have HXV : Hid (VBx wx (w.heap.size + 1) v.ctor v.n (.slice E v.kids.length ev)) := by rw [← hwx]; exact ⟨by simp [go_sem], by simp [go_sem], by simp [go_sem]⟩
  have HSX : Hid (w.heap.size + 1 + 1 = wx.heap.size) := by unfold Hid; rw [← hwx]; simp
  have HW := Lib.hid hwx
  clear hs hf hp hv ih hop hwx
  obtain ⟨y0, y1, y2, y3, y4, y5⟩ := HXP.out
  obtain ⟨z0, z1, z2⟩ := HXV.out
  go_enter Tryz.func55, Tryz.ntmps55
  go_wp2_with fail
  rw [HW.out]
  have g0 := cell_regrown y2
  have g1 := cell_regrown y3
  have g2 := cell_regrown z1
  refine wp_region_quiet_below (by kernel_rfl) (by kernel_rfl) ?_
  repeat (quiet_step (fail))
  refine wpQuiet_nil ?_
  intro w2 hw'
  have hb2 : Below wx.heap.size wx w2 := by obtain ⟨⟨dq, osq⟩, h⟩ := hw'; subst h; exact below_regrown wx dq osq
  have hbw := below_aft hbx hb2 hbx.size
  clear hw' g0 g1 g2
  go_wp2_with fail
  go_ret2
  exact BfQ.no HM.out hbw
set_option maxHeartbeats 4000000 in
theorem bf_3c (l : List Da) (d : Nat) (ih : BfC l d) (n e e' B : Nat) (D E : Option Addr) (ep ev : Nat) (t : Ty) (p : Pt) (v : Vl) (w : World) (hs : shP l (d + 1) t p = true) (hf : fitV l n t v = true) (hp : RPs e w B D p.kids) (hv : RVs e' w B E v.kids) (hB : B ≤ w.heap.size) (hN : wP p ≤ 100) (h1 : p.n ≤ v.n) (h2 : ¬ v.n ≤ p.m) (hop : p.op = 3) :
    Calls Tryz.prog 55 #[.agg #[.int .i64 p.op, .int .i64 p.ctor, .int .i64 p.n, .int .i64 p.m, .int .i64 p.var, .slice D p.kids.length ep], .agg #[.int .i64 v.ctor, .int .i64 v.n, .slice E v.kids.length ev]] w (BfQ e' B (1 + wP p) (mtI (d + 1) p v) w) := by
  have hl := hp.1
  have hlv := hv.1
  unfold maxLen at hl hlv
  have HP := Lib.hid hp
  have HV := Lib.hid hv
  have HF := Lib.hid hf
  have IH := Lib.hid ih
  have u1 : (p.op == 1) = false := ieq_f (by omega)
  have u2 : (p.op == 2) = false := ieq_f (by omega)
  have u3 := ieq_t hop
  have u4 : (p.op == 4) = false := ieq_f (by omega)
  have u5 : (p.op == 5) = false := ieq_f (by omega)
  have u6 : (p.op == 6) = false := ieq_f (by omega)
  have q1 : decide (p.n ≤ v.n) = true := decide_eq_true h1
  have q2 : decide (v.n ≤ p.m) = false := decide_eq_false h2
  have HM := Lib.hid (mtI_out (d := d) (p := p) (v := v) hop (fun h => h2 h.2))
  clear h1 h2
  generalize hwx : (w.alloc (.cells #[.int .i64 p.op, .int .i64 p.ctor, .int .i64 p.n, .int .i64 p.m, .int .i64 p.var, .slice D p.kids.length ep] 28)).alloc (.cells #[.int .i64 v.ctor, .int .i64 v.n, .slice E v.kids.length ev] 31) = wx
  have hbx : Below w.heap.size w wx := below_box2 hwx
  have hsx : w.heap.size + 2 ≤ wx.heap.size := by rw [← hwx]; simp
  have HXP : Hid (PBx wx w.heap.size p (.slice D p.kids.length ep)) := by rw [← hwx]; exact ⟨by simp [go_sem], by simp [go_sem], by simp [go_sem], by simp [go_sem], by simp [go_sem], by simp [go_sem]⟩
  have HXV : Hid (VBx wx (w.heap.size + 1) v.ctor v.n (.slice E v.kids.length ev)) := by rw [← hwx]; exact ⟨by simp [go_sem], by simp [go_sem], by simp [go_sem]⟩
  have HSX : Hid (w.heap.size + 1 + 1 = wx.heap.size) := by unfold Hid; rw [← hwx]; simp
  have HW := Lib.hid hwx
  clear hs hf hp hv ih hop hwx
  obtain ⟨y0, y1, y2, y3, y4, y5⟩ := HXP.out
  obtain ⟨z0, z1, z2⟩ := HXV.out
  go_enter Tryz.func55, Tryz.ntmps55
  go_wp2_with fail
  rw [HW.out]
  have g0 := cell_regrown y2
  have g1 := cell_regrown y3
  have g2 := cell_regrown z1
  refine wp_region_quiet_below (by kernel_rfl) (by kernel_rfl) ?_
  repeat (quiet_step (fail))
  refine wpQuiet_nil ?_
  intro w2 hw'
  have hb2 : Below wx.heap.size wx w2 := by obtain ⟨⟨dq, osq⟩, h⟩ := hw'; subst h; exact below_regrown wx dq osq
  have hbw := below_aft hbx hb2 hbx.size
  clear hw' g0 g1 g2
  go_wp2_with fail
  go_ret2
  exact BfQ.no HM.out hbw
set_option maxHeartbeats 4000000 in
theorem bf_40 (l : List Da) (d : Nat) (ih : BfC l d) (n e e' B : Nat) (D E : Option Addr) (ep ev : Nat) (t : Ty) (p : Pt) (v : Vl) (w : World) (hs : shP l (d + 1) t p = true) (hf : fitV l n t v = true) (hp : RPs e w B D p.kids) (hv : RVs e' w B E v.kids) (hB : B ≤ w.heap.size) (hN : wP p ≤ 100) (h1 : ¬ p.ctor = v.ctor) (hop : p.op = 4) :
    Calls Tryz.prog 55 #[.agg #[.int .i64 p.op, .int .i64 p.ctor, .int .i64 p.n, .int .i64 p.m, .int .i64 p.var, .slice D p.kids.length ep], .agg #[.int .i64 v.ctor, .int .i64 v.n, .slice E v.kids.length ev]] w (BfQ e' B (1 + wP p) (mtI (d + 1) p v) w) := by
  have hl := hp.1
  have hlv := hv.1
  unfold maxLen at hl hlv
  have HP := Lib.hid hp
  have HV := Lib.hid hv
  have HF := Lib.hid hf
  have IH := Lib.hid ih
  have u1 : (p.op == 1) = false := ieq_f (by omega)
  have u2 : (p.op == 2) = false := ieq_f (by omega)
  have u3 : (p.op == 3) = false := ieq_f (by omega)
  have u4 := ieq_t hop
  have u5 : (p.op == 5) = false := ieq_f (by omega)
  have u6 : (p.op == 6) = false := ieq_f (by omega)
  have q1 : (p.ctor != v.ctor) = true := by simpa using h1
  have HM := Lib.hid (mtI_other (d := d) (p := p) (v := v) hop h1)
  clear h1
  generalize hwx : (w.alloc (.cells #[.int .i64 p.op, .int .i64 p.ctor, .int .i64 p.n, .int .i64 p.m, .int .i64 p.var, .slice D p.kids.length ep] 28)).alloc (.cells #[.int .i64 v.ctor, .int .i64 v.n, .slice E v.kids.length ev] 31) = wx
  have hbx : Below w.heap.size w wx := below_box2 hwx
  have hsx : w.heap.size + 2 ≤ wx.heap.size := by rw [← hwx]; simp
  have HXP : Hid (PBx wx w.heap.size p (.slice D p.kids.length ep)) := by rw [← hwx]; exact ⟨by simp [go_sem], by simp [go_sem], by simp [go_sem], by simp [go_sem], by simp [go_sem], by simp [go_sem]⟩
  have HXV : Hid (VBx wx (w.heap.size + 1) v.ctor v.n (.slice E v.kids.length ev)) := by rw [← hwx]; exact ⟨by simp [go_sem], by simp [go_sem], by simp [go_sem]⟩
  have HSX : Hid (w.heap.size + 1 + 1 = wx.heap.size) := by unfold Hid; rw [← hwx]; simp
  have HW := Lib.hid hwx
  clear hs hf hp hv ih hop hwx
  obtain ⟨y0, y1, y2, y3, y4, y5⟩ := HXP.out
  obtain ⟨z0, z1, z2⟩ := HXV.out
  go_enter Tryz.func55, Tryz.ntmps55
  go_wp2_with fail
  rw [HW.out]
  go_ret2
  exact BfQ.no HM.out hbx
set_option maxHeartbeats 4000000 in
theorem bf_41 (l : List Da) (d : Nat) (ih : BfC l d) (ihk : BkC l d) (n e e' B : Nat) (D E : Option Addr) (ep ev : Nat) (t : Ty) (p : Pt) (v : Vl) (w : World) (hs : shP l (d + 1) t p = true) (hf : fitV l n t v = true) (hp : RPs e w B D p.kids) (hv : RVs e' w B E v.kids) (hB : B ≤ w.heap.size) (hN : wP p ≤ 100) (h1 : p.ctor = v.ctor) (hop : p.op = 4) :
    Calls Tryz.prog 55 #[.agg #[.int .i64 p.op, .int .i64 p.ctor, .int .i64 p.n, .int .i64 p.m, .int .i64 p.var, .slice D p.kids.length ep], .agg #[.int .i64 v.ctor, .int .i64 v.n, .slice E v.kids.length ev]] w (BfQ e' B (1 + wP p) (mtI (d + 1) p v) w) := by
  have hl := hp.1
  have hlv := hv.1
  unfold maxLen at hl hlv
  have HP := Lib.hid hp
  have HV := Lib.hid hv
  have HF := Lib.hid hf
  have IH := Lib.hid ih
  have u1 : (p.op == 1) = false := ieq_f (by omega)
  have u2 : (p.op == 2) = false := ieq_f (by omega)
  have u3 : (p.op == 3) = false := ieq_f (by omega)
  have u4 := ieq_t hop
  have u5 : (p.op == 5) = false := ieq_f (by omega)
  have u6 : (p.op == 6) = false := ieq_f (by omega)
  have q1 : (p.ctor != v.ctor) = false := by simpa using h1
  have HM := Lib.hid (mtI_ctor (d := d) (p := p) (v := v) hop h1)
  obtain ⟨hmem, hkl, hsh⟩ := ctor_partsP hs hop
  obtain ⟨n', _, hvl, hfk⟩ := fit_kids hmem h1 hf
  have HBK := Lib.hid (ihk n' e e' B D E ep ev (agR l t p.ctor) p.kids v.kids)
  have HH := Lib.hid (And.intro hkl (And.intro hvl (And.intro hsh hfk)))
  have HWP := Lib.hid (wP_kids p)
  clear h1 hmem hkl hsh hvl hfk
  generalize hwx : (w.alloc (.cells #[.int .i64 p.op, .int .i64 p.ctor, .int .i64 p.n, .int .i64 p.m, .int .i64 p.var, .slice D p.kids.length ep] 28)).alloc (.cells #[.int .i64 v.ctor, .int .i64 v.n, .slice E v.kids.length ev] 31) = wx
  have hbx : Below w.heap.size w wx := below_box2 hwx
  have hsx : w.heap.size + 2 ≤ wx.heap.size := by rw [← hwx]; simp
  have HXP : Hid (PBx wx w.heap.size p (.slice D p.kids.length ep)) := by rw [← hwx]; exact ⟨by simp [go_sem], by simp [go_sem], by simp [go_sem], by simp [go_sem], by simp [go_sem], by simp [go_sem]⟩
  have HXV : Hid (VBx wx (w.heap.size + 1) v.ctor v.n (.slice E v.kids.length ev)) := by rw [← hwx]; exact ⟨by simp [go_sem], by simp [go_sem], by simp [go_sem]⟩
  have HSX : Hid (w.heap.size + 1 + 1 = wx.heap.size) := by unfold Hid; rw [← hwx]; simp
  have HW := Lib.hid hwx
  clear hs hf hp hv ih hop hwx
  obtain ⟨y0, y1, y2, y3, y4, y5⟩ := HXP.out
  obtain ⟨z0, z1, z2⟩ := HXV.out
  go_enter Tryz.func55, Tryz.ntmps55
  go_wp2_with fail
  rw [HW.out]
  refine (HBK.out wx HH.out.1 HH.out.2.1 HH.out.2.2.1 HH.out.2.2.2 (HP.out.keep (fun q hq => hbx.cell (p := q) (by omega)) (Nat.le_refl _)) (HV.out.keep (fun q hq => hbx.cell (p := q) (by omega)) (Nat.le_refl _)) (by omega) (by rw [← HWP.out]; exact hN)).mono ?_
  rintro E1 w1 ⟨u, bb, L, rfl, ho, hb, hL, hn, hb1⟩
  have hbw := below_aft hbx hb1 hbx.size
  have HO := Lib.hid (ho.lower hbx.size)
  have HBB := Lib.hid hb
  have HLL := Lib.hid hL
  have HNN := Lib.hid hn
  clear ho hb hL hn y0 y1 y2 y3 y4 y5 z0 z1 z2
  go_wp2_with fail
  go_ret2
  exact ⟨_, _, L, rfl, HO.out, by rw [HM.out]; exact HBB.out, fun L0 h => HLL.out L0 (by rw [← HM.out]; exact h), by rw [HWP.out]; have := HNN.out; omega, hbw⟩
set_option maxHeartbeats 4000000 in
theorem bf_50 (l : List Da) (d : Nat) (ih : BfC l d) (L0 : List Bn) (n e e' B : Nat) (D E : Option Addr) (ep ev : Nat) (t : Ty) (p : Pt) (v : Vl) (w : World) (hs : shP l (d + 1) t p = true) (hf : fitV l n t v = true) (hp : RPs e w B D p.kids) (hv : RVs e' w B E v.kids) (hB : B ≤ w.heap.size) (hN : wP p ≤ 100) (hq0 : mtI d (p.kids.getD 0 default) v = some L0) (hop : p.op = 5) :
    Calls Tryz.prog 55 #[.agg #[.int .i64 p.op, .int .i64 p.ctor, .int .i64 p.n, .int .i64 p.m, .int .i64 p.var, .slice D p.kids.length ep], .agg #[.int .i64 v.ctor, .int .i64 v.n, .slice E v.kids.length ev]] w (BfQ e' B (1 + wP p) (mtI (d + 1) p v) w) := by
  have hl := hp.1
  have hlv := hv.1
  unfold maxLen at hl hlv
  have HP := Lib.hid hp
  have HV := Lib.hid hv
  have HF := Lib.hid hf
  have IH := Lib.hid ih
  have u1 : (p.op == 1) = false := ieq_f (by omega)
  have u2 : (p.op == 2) = false := ieq_f (by omega)
  have u3 : (p.op == 3) = false := ieq_f (by omega)
  have u4 : (p.op == 4) = false := ieq_f (by omega)
  have u5 := ieq_t hop
  have u6 : (p.op == 6) = false := ieq_f (by omega)
  obtain ⟨hk2, hs0, hs1⟩ := or_partsP hs hop
  have h0k : 0 < p.kids.length := by omega
  have h1k : 1 < p.kids.length := by omega
  have HS0 := Lib.hid (hs0 h0k)
  have HS1 := Lib.hid (hs1 h1k)
  have hi0 : (0 : Int) < (p.kids.length : Int) := by omega
  have hi1 : (1 : Int) < (p.kids.length : Int) := by omega
  clear hk2 hs0 hs1
  have hq : mtI d p.kids[0] v = some L0 := by rw [← getD_kid h0k]; exact hq0
  clear hq0
  have HM := Lib.hid (mtI_or0 (d := d) hop h0k hq)
  have HQ := Lib.hid hq
  clear hq
  generalize hwx : (w.alloc (.cells #[.int .i64 p.op, .int .i64 p.ctor, .int .i64 p.n, .int .i64 p.m, .int .i64 p.var, .slice D p.kids.length ep] 28)).alloc (.cells #[.int .i64 v.ctor, .int .i64 v.n, .slice E v.kids.length ev] 31) = wx
  have hbx : Below w.heap.size w wx := below_box2 hwx
  have hsx : w.heap.size + 2 ≤ wx.heap.size := by rw [← hwx]; simp
  have HXP : Hid (PBx wx w.heap.size p (.slice D p.kids.length ep)) := by rw [← hwx]; exact ⟨by simp [go_sem], by simp [go_sem], by simp [go_sem], by simp [go_sem], by simp [go_sem], by simp [go_sem]⟩
  have HXV : Hid (VBx wx (w.heap.size + 1) v.ctor v.n (.slice E v.kids.length ev)) := by rw [← hwx]; exact ⟨by simp [go_sem], by simp [go_sem], by simp [go_sem]⟩
  have HSX : Hid (w.heap.size + 1 + 1 = wx.heap.size) := by unfold Hid; rw [← hwx]; simp
  have HW := Lib.hid hwx
  clear hs hf hp hv ih hop hwx
  obtain ⟨y0, y1, y2, y3, y4, y5⟩ := HXP.out
  obtain ⟨z0, z1, z2⟩ := HXV.out
  clear y0 y1 y2 y3 y4 y5
  obtain ⟨b, off, rfl, hbB, hvk⟩ := (HP.out.keep (w' := wx) (fun q hq => hbx.cell (p := q) (by omega)) (Nat.le_refl _)).2 0 h0k
  obtain ⟨b2, off2, e2, hbB2, hvk2⟩ := (HP.out.keep (w' := wx) (fun q hq => hbx.cell (p := q) (by omega)) (Nat.le_refl _)).2 1 h1k
  cases e2
  rw [show off + 0 * 6 = off by omega] at hvk
  rw [show off + 1 * 6 = off + 6 by omega] at hvk2
  obtain ⟨e4, he4, D4, cp4, c0, c1, c2, c3, c4, c5, hm4⟩ := hvk.parts
  obtain ⟨e5, he5, D5, cp5, d0, d1, d2, d3, d4, d5, hm5⟩ := hvk2.parts
  obtain ⟨y0, y1, y2, y3, y4, y5⟩ := HXP.out
  have HKS : Hid (∀ W, Below wx.heap.size wx W → W.cell? ⟨w.heap.size, 5, none⟩ = some (.slice (some ⟨b, off, none⟩) p.kids.length ep) ∧ W.cell? ⟨w.heap.size + 1, 0, none⟩ = some (.int .i64 v.ctor) ∧ W.cell? ⟨w.heap.size + 1, 1, none⟩ = some (.int .i64 v.n) ∧ W.cell? ⟨w.heap.size + 1, 2, none⟩ = some (.slice E v.kids.length ev) ∧ W.cell? ⟨w.heap.size, 4, none⟩ = some (.int .i64 p.var) ∧ W.cell? ⟨b, off, none⟩ = some (.int .i64 p.kids[0].op) ∧ W.cell? ⟨b, off + 1, none⟩ = some (.int .i64 p.kids[0].ctor) ∧ W.cell? ⟨b, off + 2, none⟩ = some (.int .i64 p.kids[0].n) ∧ W.cell? ⟨b, off + 3, none⟩ = some (.int .i64 p.kids[0].m) ∧ W.cell? ⟨b, off + 4, none⟩ = some (.int .i64 p.kids[0].var) ∧ W.cell? ⟨b, off + 5, none⟩ = some (.slice D4 p.kids[0].kids.length cp4) ∧ W.cell? ⟨b, off + 6, none⟩ = some (.int .i64 p.kids[1].op) ∧ W.cell? ⟨b, off + 7, none⟩ = some (.int .i64 p.kids[1].ctor) ∧ W.cell? ⟨b, off + 8, none⟩ = some (.int .i64 p.kids[1].n) ∧ W.cell? ⟨b, off + 9, none⟩ = some (.int .i64 p.kids[1].m) ∧ W.cell? ⟨b, off + 10, none⟩ = some (.int .i64 p.kids[1].var) ∧ W.cell? ⟨b, off + 11, none⟩ = some (.slice D5 p.kids[1].kids.length cp5)) := fun W h => ⟨(h.cell (p := ⟨w.heap.size, 5, none⟩) (Go.block_lt_of_cell y5)).trans y5, (h.cell (p := ⟨w.heap.size + 1, 0, none⟩) (Go.block_lt_of_cell z0)).trans z0, (h.cell (p := ⟨w.heap.size + 1, 1, none⟩) (Go.block_lt_of_cell z1)).trans z1, (h.cell (p := ⟨w.heap.size + 1, 2, none⟩) (Go.block_lt_of_cell z2)).trans z2, (h.cell (p := ⟨w.heap.size, 4, none⟩) (Go.block_lt_of_cell y4)).trans y4, (h.cell (p := ⟨b, off, none⟩) (Go.block_lt_of_cell c0)).trans c0, (h.cell (p := ⟨b, off + 1, none⟩) (Go.block_lt_of_cell c1)).trans c1, (h.cell (p := ⟨b, off + 2, none⟩) (Go.block_lt_of_cell c2)).trans c2, (h.cell (p := ⟨b, off + 3, none⟩) (Go.block_lt_of_cell c3)).trans c3, (h.cell (p := ⟨b, off + 4, none⟩) (Go.block_lt_of_cell c4)).trans c4, (h.cell (p := ⟨b, off + 5, none⟩) (Go.block_lt_of_cell c5)).trans c5, (h.cell (p := ⟨b, off + 6, none⟩) (Go.block_lt_of_cell d0)).trans d0, (h.cell (p := ⟨b, off + 7, none⟩) (Go.block_lt_of_cell d1)).trans d1, (h.cell (p := ⟨b, off + 8, none⟩) (Go.block_lt_of_cell d2)).trans d2, (h.cell (p := ⟨b, off + 9, none⟩) (Go.block_lt_of_cell d3)).trans d3, (h.cell (p := ⟨b, off + 10, none⟩) (Go.block_lt_of_cell d4)).trans d4, (h.cell (p := ⟨b, off + 11, none⟩) (Go.block_lt_of_cell d5)).trans d5⟩
  have HC0 : Hid (∀ W, Below wx.heap.size wx W → Calls Tryz.prog 55 #[.agg #[.int .i64 p.kids[0].op, .int .i64 p.kids[0].ctor, .int .i64 p.kids[0].n, .int .i64 p.kids[0].m, .int .i64 p.kids[0].var, .slice D4 p.kids[0].kids.length cp4], .agg #[.int .i64 v.ctor, .int .i64 v.n, .slice E v.kids.length ev]] W (BfQ e' B (1 + wP p.kids[0]) (mtI d p.kids[0] v) W)) := fun W h => IH.out n e4 e' B D4 E cp4 ev t p.kids[0] v W HS0.out HF.out (hm4.keep (fun q hq => h.cell (p := q) (by omega)) (Nat.le_refl _)) (HV.out.keep (fun q hq => (below_aft hbx h hbx.size).cell (p := q) (by omega)) (Nat.le_refl _)) (by have := h.size; omega) (by have := wP_kid p 0 h0k; omega)
  have HC1 : Hid (∀ W, Below wx.heap.size wx W → Calls Tryz.prog 55 #[.agg #[.int .i64 p.kids[1].op, .int .i64 p.kids[1].ctor, .int .i64 p.kids[1].n, .int .i64 p.kids[1].m, .int .i64 p.kids[1].var, .slice D5 p.kids[1].kids.length cp5], .agg #[.int .i64 v.ctor, .int .i64 v.n, .slice E v.kids.length ev]] W (BfQ e' B (1 + wP p.kids[1]) (mtI d p.kids[1] v) W)) := fun W h => IH.out n e5 e' B D5 E cp5 ev t p.kids[1] v W HS1.out HF.out (hm5.keep (fun q hq => h.cell (p := q) (by omega)) (Nat.le_refl _)) (HV.out.keep (fun q hq => (below_aft hbx h hbx.size).cell (p := q) (by omega)) (Nat.le_refl _)) (by have := h.size; omega) (by have := wP_kid p 1 h1k; omega)
  have HW0 := Lib.hid (wP_kid p 0 h0k)
  have HW1 := Lib.hid (wP_kid p 1 h1k)
  have HBD : Hid (Below wx.heap.size wx wx.drew) := (Below.refl _ wx).drew
  have SQ := HKS.out wx.drew HBD.out
  clear c0 c1 c2 c3 c4 c5 d0 d1 d2 d3 d4 d5 hm4 hm5 hvk hvk2 he4 he5 y0 y1 y2 y3 y4 y5 z0 z1 z2
  rw [HQ.out] at HC0
  go_enter Tryz.func55, Tryz.ntmps55
  go_wp2_with fail
  rw [HW.out]
  go_region_held3 (fun w' => w'.cell? ⟨w.heap.size, 5, none⟩ = some (.slice (some ⟨b, off, none⟩) p.kids.length ep) ∧ w'.cell? ⟨w.heap.size + 1, 0, none⟩ = some (.int .i64 v.ctor) ∧ w'.cell? ⟨w.heap.size + 1, 1, none⟩ = some (.int .i64 v.n) ∧ w'.cell? ⟨w.heap.size + 1, 2, none⟩ = some (.slice E v.kids.length ev) ∧ w'.cell? ⟨w.heap.size, 4, none⟩ = some (.int .i64 p.var) ∧ w'.cell? ⟨b, off, none⟩ = some (.int .i64 p.kids[0].op) ∧ w'.cell? ⟨b, off + 1, none⟩ = some (.int .i64 p.kids[0].ctor) ∧ w'.cell? ⟨b, off + 2, none⟩ = some (.int .i64 p.kids[0].n) ∧ w'.cell? ⟨b, off + 3, none⟩ = some (.int .i64 p.kids[0].m) ∧ w'.cell? ⟨b, off + 4, none⟩ = some (.int .i64 p.kids[0].var) ∧ w'.cell? ⟨b, off + 5, none⟩ = some (.slice D4 p.kids[0].kids.length cp4) ∧ w'.cell? ⟨b, off + 6, none⟩ = some (.int .i64 p.kids[1].op) ∧ w'.cell? ⟨b, off + 7, none⟩ = some (.int .i64 p.kids[1].ctor) ∧ w'.cell? ⟨b, off + 8, none⟩ = some (.int .i64 p.kids[1].n) ∧ w'.cell? ⟨b, off + 9, none⟩ = some (.int .i64 p.kids[1].m) ∧ w'.cell? ⟨b, off + 10, none⟩ = some (.int .i64 p.kids[1].var) ∧ w'.cell? ⟨b, off + 11, none⟩ = some (.slice D5 p.kids[1].kids.length cp5)) (first | with_reducible exact SQ | go_keep) (first | (go_at_call 55; (with_reducible refine (HC0.out wx.drew HBD.out).mono ?_); intro e1 w1 hq1; obtain ⟨u, rfl, ho, hn, hb'⟩ := hq1.some_; have hbq : Below wx.heap.size wx w1 := ⟨hb'.os, hb'.tape, hb'.output, hb'.size, hb'.block⟩; have SQ := HKS.out _ hbq; have HO := Lib.hid ho; have HN := Lib.hid hn; clear hq1 ho hn hb'))
  all_goals
    clear SQ
    have hbw := below_aft hbx hbq hbx.size
    go_wp2_with fail
    go_ret2
    exact ⟨_, _, L0, rfl, HO.out.lower hbx.size, by rw [HM.out]; rfl, fun L1 h => by rw [HM.out] at h; exact Option.some.inj h, by have := HN.out; have := HW0.out; omega, hbw⟩
set_option maxHeartbeats 4000000 in
theorem bf_51 (l : List Da) (d : Nat) (ih : BfC l d) (n e e' B : Nat) (D E : Option Addr) (ep ev : Nat) (t : Ty) (p : Pt) (v : Vl) (w : World) (hs : shP l (d + 1) t p = true) (hf : fitV l n t v = true) (hp : RPs e w B D p.kids) (hv : RVs e' w B E v.kids) (hB : B ≤ w.heap.size) (hN : wP p ≤ 100) (hq0 : mtI d (p.kids.getD 0 default) v = none) (hop : p.op = 5) :
    Calls Tryz.prog 55 #[.agg #[.int .i64 p.op, .int .i64 p.ctor, .int .i64 p.n, .int .i64 p.m, .int .i64 p.var, .slice D p.kids.length ep], .agg #[.int .i64 v.ctor, .int .i64 v.n, .slice E v.kids.length ev]] w (BfQ e' B (1 + wP p) (mtI (d + 1) p v) w) := by
  have hl := hp.1
  have hlv := hv.1
  unfold maxLen at hl hlv
  have HP := Lib.hid hp
  have HV := Lib.hid hv
  have HF := Lib.hid hf
  have IH := Lib.hid ih
  have u1 : (p.op == 1) = false := ieq_f (by omega)
  have u2 : (p.op == 2) = false := ieq_f (by omega)
  have u3 : (p.op == 3) = false := ieq_f (by omega)
  have u4 : (p.op == 4) = false := ieq_f (by omega)
  have u5 := ieq_t hop
  have u6 : (p.op == 6) = false := ieq_f (by omega)
  obtain ⟨hk2, hs0, hs1⟩ := or_partsP hs hop
  have h0k : 0 < p.kids.length := by omega
  have h1k : 1 < p.kids.length := by omega
  have HS0 := Lib.hid (hs0 h0k)
  have HS1 := Lib.hid (hs1 h1k)
  have hi0 : (0 : Int) < (p.kids.length : Int) := by omega
  have hi1 : (1 : Int) < (p.kids.length : Int) := by omega
  clear hk2 hs0 hs1
  have hq : mtI d p.kids[0] v = none := by rw [← getD_kid h0k]; exact hq0
  clear hq0
  have HM := Lib.hid (mtI_or1 (d := d) hop h0k h1k hq)
  have HQ := Lib.hid hq
  clear hq
  generalize hwx : (w.alloc (.cells #[.int .i64 p.op, .int .i64 p.ctor, .int .i64 p.n, .int .i64 p.m, .int .i64 p.var, .slice D p.kids.length ep] 28)).alloc (.cells #[.int .i64 v.ctor, .int .i64 v.n, .slice E v.kids.length ev] 31) = wx
  have hbx : Below w.heap.size w wx := below_box2 hwx
  have hsx : w.heap.size + 2 ≤ wx.heap.size := by rw [← hwx]; simp
  have HXP : Hid (PBx wx w.heap.size p (.slice D p.kids.length ep)) := by rw [← hwx]; exact ⟨by simp [go_sem], by simp [go_sem], by simp [go_sem], by simp [go_sem], by simp [go_sem], by simp [go_sem]⟩
  have HXV : Hid (VBx wx (w.heap.size + 1) v.ctor v.n (.slice E v.kids.length ev)) := by rw [← hwx]; exact ⟨by simp [go_sem], by simp [go_sem], by simp [go_sem]⟩
  have HSX : Hid (w.heap.size + 1 + 1 = wx.heap.size) := by unfold Hid; rw [← hwx]; simp
  have HW := Lib.hid hwx
  clear hs hf hp hv ih hop hwx
  obtain ⟨y0, y1, y2, y3, y4, y5⟩ := HXP.out
  obtain ⟨z0, z1, z2⟩ := HXV.out
  clear y0 y1 y2 y3 y4 y5
  obtain ⟨b, off, rfl, hbB, hvk⟩ := (HP.out.keep (w' := wx) (fun q hq => hbx.cell (p := q) (by omega)) (Nat.le_refl _)).2 0 h0k
  obtain ⟨b2, off2, e2, hbB2, hvk2⟩ := (HP.out.keep (w' := wx) (fun q hq => hbx.cell (p := q) (by omega)) (Nat.le_refl _)).2 1 h1k
  cases e2
  rw [show off + 0 * 6 = off by omega] at hvk
  rw [show off + 1 * 6 = off + 6 by omega] at hvk2
  obtain ⟨e4, he4, D4, cp4, c0, c1, c2, c3, c4, c5, hm4⟩ := hvk.parts
  obtain ⟨e5, he5, D5, cp5, d0, d1, d2, d3, d4, d5, hm5⟩ := hvk2.parts
  obtain ⟨y0, y1, y2, y3, y4, y5⟩ := HXP.out
  have HKS : Hid (∀ W, Below wx.heap.size wx W → W.cell? ⟨w.heap.size, 5, none⟩ = some (.slice (some ⟨b, off, none⟩) p.kids.length ep) ∧ W.cell? ⟨w.heap.size + 1, 0, none⟩ = some (.int .i64 v.ctor) ∧ W.cell? ⟨w.heap.size + 1, 1, none⟩ = some (.int .i64 v.n) ∧ W.cell? ⟨w.heap.size + 1, 2, none⟩ = some (.slice E v.kids.length ev) ∧ W.cell? ⟨w.heap.size, 4, none⟩ = some (.int .i64 p.var) ∧ W.cell? ⟨b, off, none⟩ = some (.int .i64 p.kids[0].op) ∧ W.cell? ⟨b, off + 1, none⟩ = some (.int .i64 p.kids[0].ctor) ∧ W.cell? ⟨b, off + 2, none⟩ = some (.int .i64 p.kids[0].n) ∧ W.cell? ⟨b, off + 3, none⟩ = some (.int .i64 p.kids[0].m) ∧ W.cell? ⟨b, off + 4, none⟩ = some (.int .i64 p.kids[0].var) ∧ W.cell? ⟨b, off + 5, none⟩ = some (.slice D4 p.kids[0].kids.length cp4) ∧ W.cell? ⟨b, off + 6, none⟩ = some (.int .i64 p.kids[1].op) ∧ W.cell? ⟨b, off + 7, none⟩ = some (.int .i64 p.kids[1].ctor) ∧ W.cell? ⟨b, off + 8, none⟩ = some (.int .i64 p.kids[1].n) ∧ W.cell? ⟨b, off + 9, none⟩ = some (.int .i64 p.kids[1].m) ∧ W.cell? ⟨b, off + 10, none⟩ = some (.int .i64 p.kids[1].var) ∧ W.cell? ⟨b, off + 11, none⟩ = some (.slice D5 p.kids[1].kids.length cp5)) := fun W h => ⟨(h.cell (p := ⟨w.heap.size, 5, none⟩) (Go.block_lt_of_cell y5)).trans y5, (h.cell (p := ⟨w.heap.size + 1, 0, none⟩) (Go.block_lt_of_cell z0)).trans z0, (h.cell (p := ⟨w.heap.size + 1, 1, none⟩) (Go.block_lt_of_cell z1)).trans z1, (h.cell (p := ⟨w.heap.size + 1, 2, none⟩) (Go.block_lt_of_cell z2)).trans z2, (h.cell (p := ⟨w.heap.size, 4, none⟩) (Go.block_lt_of_cell y4)).trans y4, (h.cell (p := ⟨b, off, none⟩) (Go.block_lt_of_cell c0)).trans c0, (h.cell (p := ⟨b, off + 1, none⟩) (Go.block_lt_of_cell c1)).trans c1, (h.cell (p := ⟨b, off + 2, none⟩) (Go.block_lt_of_cell c2)).trans c2, (h.cell (p := ⟨b, off + 3, none⟩) (Go.block_lt_of_cell c3)).trans c3, (h.cell (p := ⟨b, off + 4, none⟩) (Go.block_lt_of_cell c4)).trans c4, (h.cell (p := ⟨b, off + 5, none⟩) (Go.block_lt_of_cell c5)).trans c5, (h.cell (p := ⟨b, off + 6, none⟩) (Go.block_lt_of_cell d0)).trans d0, (h.cell (p := ⟨b, off + 7, none⟩) (Go.block_lt_of_cell d1)).trans d1, (h.cell (p := ⟨b, off + 8, none⟩) (Go.block_lt_of_cell d2)).trans d2, (h.cell (p := ⟨b, off + 9, none⟩) (Go.block_lt_of_cell d3)).trans d3, (h.cell (p := ⟨b, off + 10, none⟩) (Go.block_lt_of_cell d4)).trans d4, (h.cell (p := ⟨b, off + 11, none⟩) (Go.block_lt_of_cell d5)).trans d5⟩
  have HC0 : Hid (∀ W, Below wx.heap.size wx W → Calls Tryz.prog 55 #[.agg #[.int .i64 p.kids[0].op, .int .i64 p.kids[0].ctor, .int .i64 p.kids[0].n, .int .i64 p.kids[0].m, .int .i64 p.kids[0].var, .slice D4 p.kids[0].kids.length cp4], .agg #[.int .i64 v.ctor, .int .i64 v.n, .slice E v.kids.length ev]] W (BfQ e' B (1 + wP p.kids[0]) (mtI d p.kids[0] v) W)) := fun W h => IH.out n e4 e' B D4 E cp4 ev t p.kids[0] v W HS0.out HF.out (hm4.keep (fun q hq => h.cell (p := q) (by omega)) (Nat.le_refl _)) (HV.out.keep (fun q hq => (below_aft hbx h hbx.size).cell (p := q) (by omega)) (Nat.le_refl _)) (by have := h.size; omega) (by have := wP_kid p 0 h0k; omega)
  have HC1 : Hid (∀ W, Below wx.heap.size wx W → Calls Tryz.prog 55 #[.agg #[.int .i64 p.kids[1].op, .int .i64 p.kids[1].ctor, .int .i64 p.kids[1].n, .int .i64 p.kids[1].m, .int .i64 p.kids[1].var, .slice D5 p.kids[1].kids.length cp5], .agg #[.int .i64 v.ctor, .int .i64 v.n, .slice E v.kids.length ev]] W (BfQ e' B (1 + wP p.kids[1]) (mtI d p.kids[1] v) W)) := fun W h => IH.out n e5 e' B D5 E cp5 ev t p.kids[1] v W HS1.out HF.out (hm5.keep (fun q hq => h.cell (p := q) (by omega)) (Nat.le_refl _)) (HV.out.keep (fun q hq => (below_aft hbx h hbx.size).cell (p := q) (by omega)) (Nat.le_refl _)) (by have := h.size; omega) (by have := wP_kid p 1 h1k; omega)
  have HW0 := Lib.hid (wP_kid p 0 h0k)
  have HW1 := Lib.hid (wP_kid p 1 h1k)
  have HBD : Hid (Below wx.heap.size wx wx.drew) := (Below.refl _ wx).drew
  have SQ := HKS.out wx.drew HBD.out
  clear c0 c1 c2 c3 c4 c5 d0 d1 d2 d3 d4 d5 hm4 hm5 hvk hvk2 he4 he5 y0 y1 y2 y3 y4 y5 z0 z1 z2
  rw [HQ.out] at HC0
  go_enter Tryz.func55, Tryz.ntmps55
  go_wp2_with fail
  rw [HW.out]
  go_region_held3 (fun w' => w'.cell? ⟨w.heap.size, 5, none⟩ = some (.slice (some ⟨b, off, none⟩) p.kids.length ep) ∧ w'.cell? ⟨w.heap.size + 1, 0, none⟩ = some (.int .i64 v.ctor) ∧ w'.cell? ⟨w.heap.size + 1, 1, none⟩ = some (.int .i64 v.n) ∧ w'.cell? ⟨w.heap.size + 1, 2, none⟩ = some (.slice E v.kids.length ev) ∧ w'.cell? ⟨w.heap.size, 4, none⟩ = some (.int .i64 p.var) ∧ w'.cell? ⟨b, off, none⟩ = some (.int .i64 p.kids[0].op) ∧ w'.cell? ⟨b, off + 1, none⟩ = some (.int .i64 p.kids[0].ctor) ∧ w'.cell? ⟨b, off + 2, none⟩ = some (.int .i64 p.kids[0].n) ∧ w'.cell? ⟨b, off + 3, none⟩ = some (.int .i64 p.kids[0].m) ∧ w'.cell? ⟨b, off + 4, none⟩ = some (.int .i64 p.kids[0].var) ∧ w'.cell? ⟨b, off + 5, none⟩ = some (.slice D4 p.kids[0].kids.length cp4) ∧ w'.cell? ⟨b, off + 6, none⟩ = some (.int .i64 p.kids[1].op) ∧ w'.cell? ⟨b, off + 7, none⟩ = some (.int .i64 p.kids[1].ctor) ∧ w'.cell? ⟨b, off + 8, none⟩ = some (.int .i64 p.kids[1].n) ∧ w'.cell? ⟨b, off + 9, none⟩ = some (.int .i64 p.kids[1].m) ∧ w'.cell? ⟨b, off + 10, none⟩ = some (.int .i64 p.kids[1].var) ∧ w'.cell? ⟨b, off + 11, none⟩ = some (.slice D5 p.kids[1].kids.length cp5)) (first | with_reducible exact SQ | go_keep) (first | (go_at_call 55; (with_reducible refine (HC0.out wx.drew HBD.out).mono ?_); intro e1 w1 hq1; obtain ⟨u, L, rfl, ho, hn, hb'⟩ := hq1.none_; have hbq : Below wx.heap.size wx w1 := ⟨hb'.os, hb'.tape, hb'.output, hb'.size, hb'.block⟩; have SQ := HKS.out _ hbq; clear hq1 ho hn hb'))
  clear SQ
  have HQB := Lib.hid hbq
  have hs1 := hbq.size
  have SQ := HKS.out w1.drew hbq.drew
  have HBD1 : Hid (Below w1.heap.size w1 w1.drew) := (Below.refl _ w1).drew
  clear hbq
  go_wp2_with fail
  go_region_held3 (fun w' => w'.cell? ⟨w.heap.size, 5, none⟩ = some (.slice (some ⟨b, off, none⟩) p.kids.length ep) ∧ w'.cell? ⟨w.heap.size + 1, 0, none⟩ = some (.int .i64 v.ctor) ∧ w'.cell? ⟨w.heap.size + 1, 1, none⟩ = some (.int .i64 v.n) ∧ w'.cell? ⟨w.heap.size + 1, 2, none⟩ = some (.slice E v.kids.length ev) ∧ w'.cell? ⟨w.heap.size, 4, none⟩ = some (.int .i64 p.var) ∧ w'.cell? ⟨b, off, none⟩ = some (.int .i64 p.kids[0].op) ∧ w'.cell? ⟨b, off + 1, none⟩ = some (.int .i64 p.kids[0].ctor) ∧ w'.cell? ⟨b, off + 2, none⟩ = some (.int .i64 p.kids[0].n) ∧ w'.cell? ⟨b, off + 3, none⟩ = some (.int .i64 p.kids[0].m) ∧ w'.cell? ⟨b, off + 4, none⟩ = some (.int .i64 p.kids[0].var) ∧ w'.cell? ⟨b, off + 5, none⟩ = some (.slice D4 p.kids[0].kids.length cp4) ∧ w'.cell? ⟨b, off + 6, none⟩ = some (.int .i64 p.kids[1].op) ∧ w'.cell? ⟨b, off + 7, none⟩ = some (.int .i64 p.kids[1].ctor) ∧ w'.cell? ⟨b, off + 8, none⟩ = some (.int .i64 p.kids[1].n) ∧ w'.cell? ⟨b, off + 9, none⟩ = some (.int .i64 p.kids[1].m) ∧ w'.cell? ⟨b, off + 10, none⟩ = some (.int .i64 p.kids[1].var) ∧ w'.cell? ⟨b, off + 11, none⟩ = some (.slice D5 p.kids[1].kids.length cp5)) (first | with_reducible exact SQ | go_keep) (first | (go_at_call 55; (with_reducible refine (HC1.out w1.drew HQB.out.drew).mono ?_); rintro e2 w2 ⟨u2, b2, L2, rfl, ho, hb, hL, hn, hb'⟩; have hbq : Below w1.heap.size w1 w2 := ⟨hb'.os, hb'.tape, hb'.output, hb'.size, hb'.block⟩; have SQ := HKS.out _ (below_aft HQB.out hbq hs1); have HO := Lib.hid ho; have HBB := Lib.hid hb; have HLL := Lib.hid hL; have HN := Lib.hid hn; clear ho hb hL hn hb'))
  all_goals
    clear SQ
    have hbw := below_aft hbx (below_aft HQB.out hbq hs1) hbx.size
    have hlo : w.heap.size ≤ w1.drew.heap.size := Nat.le_trans hbx.size hs1
    go_wp2_with fail
    go_ret2
    exact ⟨_, _, L2, rfl, HO.out.lower hlo, by rw [HM.out]; exact HBB.out, fun L1 h => HLL.out L1 (by rw [← HM.out]; exact h), by have := HN.out; have := HW1.out; omega, hbw⟩
set_option maxHeartbeats 4000000 in
theorem bf_6 (l : List Da) (d : Nat) (ih : BfC l d) (n e e' B : Nat) (D E : Option Addr) (ep ev : Nat) (t : Ty) (p : Pt) (v : Vl) (w : World) (hs : shP l (d + 1) t p = true) (hf : fitV l n t v = true) (hp : RPs e w B D p.kids) (hv : RVs e' w B E v.kids) (hB : B ≤ w.heap.size) (hN : wP p ≤ 100) (hop : p.op = 6) :
    Calls Tryz.prog 55 #[.agg #[.int .i64 p.op, .int .i64 p.ctor, .int .i64 p.n, .int .i64 p.m, .int .i64 p.var, .slice D p.kids.length ep], .agg #[.int .i64 v.ctor, .int .i64 v.n, .slice E v.kids.length ev]] w (BfQ e' B (1 + wP p) (mtI (d + 1) p v) w) := by
  have hl := hp.1
  have hlv := hv.1
  unfold maxLen at hl hlv
  have HP := Lib.hid hp
  have HV := Lib.hid hv
  have HF := Lib.hid hf
  have IH := Lib.hid ih
  have u1 : (p.op == 1) = false := ieq_f (by omega)
  have u2 : (p.op == 2) = false := ieq_f (by omega)
  have u3 : (p.op == 3) = false := ieq_f (by omega)
  have u4 : (p.op == 4) = false := ieq_f (by omega)
  have u5 : (p.op == 5) = false := ieq_f (by omega)
  have u6 := ieq_t hop
  obtain ⟨hk1, hs0⟩ := as_partsP hs hop
  have h0k : 0 < p.kids.length := by omega
  have HS0 := Lib.hid (hs0 h0k)
  have hi0 : (0 : Int) < (p.kids.length : Int) := by omega
  have HM := Lib.hid (mtI_as (d := d) (v := v) hop h0k)
  obtain ⟨i0, hi, hz0, hz1, hz2⟩ := info_parts infoBn
  clear hk1 hs0
  generalize hwx : (w.alloc (.cells #[.int .i64 p.op, .int .i64 p.ctor, .int .i64 p.n, .int .i64 p.m, .int .i64 p.var, .slice D p.kids.length ep] 28)).alloc (.cells #[.int .i64 v.ctor, .int .i64 v.n, .slice E v.kids.length ev] 31) = wx
  have hbx : Below w.heap.size w wx := below_box2 hwx
  have hsx : w.heap.size + 2 ≤ wx.heap.size := by rw [← hwx]; simp
  have HXP : Hid (PBx wx w.heap.size p (.slice D p.kids.length ep)) := by rw [← hwx]; exact ⟨by simp [go_sem], by simp [go_sem], by simp [go_sem], by simp [go_sem], by simp [go_sem], by simp [go_sem]⟩
  have HXV : Hid (VBx wx (w.heap.size + 1) v.ctor v.n (.slice E v.kids.length ev)) := by rw [← hwx]; exact ⟨by simp [go_sem], by simp [go_sem], by simp [go_sem]⟩
  have HSX : Hid (w.heap.size + 1 + 1 = wx.heap.size) := by unfold Hid; rw [← hwx]; simp
  have HW := Lib.hid hwx
  clear hs hf hp hv ih hop hwx
  obtain ⟨y0, y1, y2, y3, y4, y5⟩ := HXP.out
  obtain ⟨z0, z1, z2⟩ := HXV.out
  clear y0 y1 y2 y3 y4 y5
  obtain ⟨b, off, rfl, hbB, hvk⟩ := (HP.out.keep (w' := wx) (fun q hq => hbx.cell (p := q) (by omega)) (Nat.le_refl _)).2 0 h0k
  rw [show off + 0 * 6 = off by omega] at hvk
  obtain ⟨e4, he4, D4, cp4, c0, c1, c2, c3, c4, c5, hm4⟩ := hvk.parts
  obtain ⟨y0, y1, y2, y3, y4, y5⟩ := HXP.out
  have HKS : Hid (∀ W, Below wx.heap.size wx W → W.cell? ⟨w.heap.size, 5, none⟩ = some (.slice (some ⟨b, off, none⟩) p.kids.length ep) ∧ W.cell? ⟨w.heap.size + 1, 0, none⟩ = some (.int .i64 v.ctor) ∧ W.cell? ⟨w.heap.size + 1, 1, none⟩ = some (.int .i64 v.n) ∧ W.cell? ⟨w.heap.size + 1, 2, none⟩ = some (.slice E v.kids.length ev) ∧ W.cell? ⟨w.heap.size, 4, none⟩ = some (.int .i64 p.var) ∧ W.cell? ⟨b, off, none⟩ = some (.int .i64 p.kids[0].op) ∧ W.cell? ⟨b, off + 1, none⟩ = some (.int .i64 p.kids[0].ctor) ∧ W.cell? ⟨b, off + 2, none⟩ = some (.int .i64 p.kids[0].n) ∧ W.cell? ⟨b, off + 3, none⟩ = some (.int .i64 p.kids[0].m) ∧ W.cell? ⟨b, off + 4, none⟩ = some (.int .i64 p.kids[0].var) ∧ W.cell? ⟨b, off + 5, none⟩ = some (.slice D4 p.kids[0].kids.length cp4)) := fun W h => ⟨(h.cell (p := ⟨w.heap.size, 5, none⟩) (Go.block_lt_of_cell y5)).trans y5, (h.cell (p := ⟨w.heap.size + 1, 0, none⟩) (Go.block_lt_of_cell z0)).trans z0, (h.cell (p := ⟨w.heap.size + 1, 1, none⟩) (Go.block_lt_of_cell z1)).trans z1, (h.cell (p := ⟨w.heap.size + 1, 2, none⟩) (Go.block_lt_of_cell z2)).trans z2, (h.cell (p := ⟨w.heap.size, 4, none⟩) (Go.block_lt_of_cell y4)).trans y4, (h.cell (p := ⟨b, off, none⟩) (Go.block_lt_of_cell c0)).trans c0, (h.cell (p := ⟨b, off + 1, none⟩) (Go.block_lt_of_cell c1)).trans c1, (h.cell (p := ⟨b, off + 2, none⟩) (Go.block_lt_of_cell c2)).trans c2, (h.cell (p := ⟨b, off + 3, none⟩) (Go.block_lt_of_cell c3)).trans c3, (h.cell (p := ⟨b, off + 4, none⟩) (Go.block_lt_of_cell c4)).trans c4, (h.cell (p := ⟨b, off + 5, none⟩) (Go.block_lt_of_cell c5)).trans c5⟩
  have HC0 : Hid (∀ W, Below wx.heap.size wx W → Calls Tryz.prog 55 #[.agg #[.int .i64 p.kids[0].op, .int .i64 p.kids[0].ctor, .int .i64 p.kids[0].n, .int .i64 p.kids[0].m, .int .i64 p.kids[0].var, .slice D4 p.kids[0].kids.length cp4], .agg #[.int .i64 v.ctor, .int .i64 v.n, .slice E v.kids.length ev]] W (BfQ e' B (1 + wP p.kids[0]) (mtI d p.kids[0] v) W)) := fun W h => IH.out n e4 e' B D4 E cp4 ev t p.kids[0] v W HS0.out HF.out (hm4.keep (fun q hq => h.cell (p := q) (by omega)) (Nat.le_refl _)) (HV.out.keep (fun q hq => (below_aft hbx h hbx.size).cell (p := q) (by omega)) (Nat.le_refl _)) (by have := h.size; omega) (by have := wP_kid p 0 h0k; omega)
  have HW0 := Lib.hid (wP_kid1 p 0 h0k)
  have HBD : Hid (Below wx.heap.size wx wx.drew) := (Below.refl _ wx).drew
  have SQ := HKS.out wx.drew HBD.out
  obtain ⟨o, ho0⟩ : ∃ o, mtI d p.kids[0] v = o := ⟨_, rfl⟩
  rw [ho0] at HC0
  have HOO := Lib.hid ho0
  clear c0 c1 c2 c3 c4 c5 hm4 hvk he4 y0 y1 y2 y3 y4 y5 z0 z1 z2 ho0
  go_enter Tryz.func55, Tryz.ntmps55
  go_wp2_with fail
  rw [HW.out]
  go_region_held3 (fun w' => w'.cell? ⟨w.heap.size, 5, none⟩ = some (.slice (some ⟨b, off, none⟩) p.kids.length ep) ∧ w'.cell? ⟨w.heap.size + 1, 0, none⟩ = some (.int .i64 v.ctor) ∧ w'.cell? ⟨w.heap.size + 1, 1, none⟩ = some (.int .i64 v.n) ∧ w'.cell? ⟨w.heap.size + 1, 2, none⟩ = some (.slice E v.kids.length ev) ∧ w'.cell? ⟨w.heap.size, 4, none⟩ = some (.int .i64 p.var) ∧ w'.cell? ⟨b, off, none⟩ = some (.int .i64 p.kids[0].op) ∧ w'.cell? ⟨b, off + 1, none⟩ = some (.int .i64 p.kids[0].ctor) ∧ w'.cell? ⟨b, off + 2, none⟩ = some (.int .i64 p.kids[0].n) ∧ w'.cell? ⟨b, off + 3, none⟩ = some (.int .i64 p.kids[0].m) ∧ w'.cell? ⟨b, off + 4, none⟩ = some (.int .i64 p.kids[0].var) ∧ w'.cell? ⟨b, off + 5, none⟩ = some (.slice D4 p.kids[0].kids.length cp4)) (first | with_reducible exact SQ | go_keep) (first | (go_at_call 55; (with_reducible refine (HC0.out wx.drew HBD.out).mono ?_); rintro e1 w1 ⟨u, bb, L, rfl, ho, hb, hL, hn, hb'⟩; have hbq : Below wx.heap.size wx w1 := ⟨hb'.os, hb'.tape, hb'.output, hb'.size, hb'.block⟩; have SQ := HKS.out _ hbq; have HO := Lib.hid ho; have HBB := Lib.hid hb; have HLL := Lib.hid hL; have HN := Lib.hid hn; clear ho hb hL hn hb'))
  obtain ⟨y5, z0, z1, z2, y4, _⟩ := SQ
  have HQB := Lib.hid hbq
  have hs1 := hbq.size
  have hbw := below_aft hbx hbq hbx.size
  obtain ⟨xs, hown, hrow⟩ := HO.out
  have HOX := Lib.hid hown
  have HXR := Lib.hid hrow
  have HXL := Lib.hid hown.1
  have HOW : Hid (∀ g, u.ownBlock = some g → w.heap.size ≤ g) := fun g e => by have h1 : wx.heap.size ≤ g := (hown.lt g e).1; have := hbx.size; omega
  have hL100 : L.length ≤ 200 := by have := HN.out; have := HW0.out; omega
  have HC1 := Lib.hid (cell_four_new w1 (.int .i64 p.var) (.int .i64 v.ctor) (.int .i64 v.n) (.slice E v.kids.length ev) 41)
  have HC2 : Hid (∀ q ∈ [Value.int .i64 p.var, .int .i64 v.ctor, .int .i64 v.n, .slice E v.kids.length ev], q.oneCell' = true) := by intro q hq; simp at hq; rcases hq with rfl | rfl | rfl | rfl <;> rfl
  have HC3 : Hid (L.length + 1 ≤ maxLen) := by unfold Hid maxLen; omega
  have HC4 : Hid ((L.length + 1) * 48 ≤ 140737488355328) := by unfold Hid; omega
  have HC5 : Hid (wx.drew.heap.size ≤ (w1.alloc (.cells #[.int .i64 p.var, .int .i64 v.ctor, .int .i64 v.n, .slice E v.kids.length ev] 41)).heap.size) := by unfold Hid; rw [World.size_alloc]; have h0 : wx.drew.heap.size = wx.heap.size := rfl; omega
  clear hown hrow hbq
  go_wp2_with (at_builtin; refine wpList_append_own_at _ rfl _ _ 34 rfl wx.drew.heap.size 41 i0 _ 4 48 Tryz.underlying34 hi hz0 hz1 hz2 rfl (by decide) u _ xs rfl (HOX.out.alloc _) ⟨w1.heap.size, 0, none⟩ 1 1 [.int .i64 p.var, .int .i64 v.ctor, .int .i64 v.n, .slice E v.kids.length ev] rfl rfl HC1.out HC2.out HC3.out HC4.out HC5.out ?_)
  intro v' w2 hown' hgr' hnn' hat'
  have hb2 : Below w.heap.size w w2 := (hbw.alloc hbw.size _).grown hgr' (by rw [World.size_alloc]; have := hbw.size; omega) HOW.out
  have hrow2 : OBr e' w2 w.heap.size B v' (L ++ [⟨p.var, v⟩]) := by
    have hk : ∀ q : Addr, q.block < B → w2.cell? q = w1.cell? q := fun q hq => by rw [hb2.cell (p := q) (by omega), hbw.cell (p := q) (by omega)]
    have hr1 := (HXR.out.keep hk).cat HXL.out (RBr.single p.var v (HV.out.keep (w' := w2) (fun q hq => hb2.cell (p := q) (by omega)) (Nat.le_refl _)) (cap := ev))
    refine OBr.lower (lo := wx.drew.heap.size) ⟨_, ?_, hr1⟩ (by have h0 : wx.drew.heap.size = wx.heap.size := rfl; have := hbx.size; omega)
    rw [List.length_append]
    exact hown'
  have HR2 := Lib.hid hrow2
  clear hown' hgr' hnn' hat' hrow2
  go_wp2_with fail
  go_ret2
  refine ⟨v', _, L ++ [⟨p.var, v⟩], rfl, HR2.out, ?_, fun L1 h => ?_, ?_, hb2⟩
  · rw [HM.out, HOO.out, HBB.out]; cases o <;> rfl
  · rw [HM.out, HOO.out] at h
    cases o with
    | none => cases h
    | some L0 => rw [HLL.out L0 rfl]; exact Option.some.inj h
  · have := HN.out; have := HW0.out; simp only [List.length_append, List.length_singleton]; omega
set_option maxHeartbeats 4000000 in
theorem bk_of (l : List Da) (d : Nat) (ih : BfC l d) : BkC l d := by
  intro n e e' B D E ep ev ats ps vs w hpl hvl hsh hfk hp hv hB hN
  obtain ⟨i0, hi, hz0, hz1, hz2⟩ := info_parts infoBn
  have HP := Lib.hid hp
  have HV := Lib.hid hv
  have IH := Lib.hid ih
  have HSH := Lib.hid hsh
  have HFK := Lib.hid hfk
  have HPL := Lib.hid hpl
  have HVL := Lib.hid hvl
  have HSum := Lib.hid (wPs_sum ps)
  have hlp : ps.length ≤ 100 := by have := wPs_sum ps; omega
  clear hp hv ih hsh hfk hpl hvl
  go_enter Tryz.func117, Tryz.ntmps117
  go_wp2_with fail
  go_loopw [6, 13] (fun us i wr => ∃ k : Nat, k ≤ ps.length ∧ i = .int .i64 k ∧ ∃ u L, u = us ∧ Hid (OBr e' wr w.heap.size B u L) ∧ Hid (catO (kidB d ps vs) k = some L) ∧ Hid (L.length ≤ k + ((ps.take k).map wP).sum) ∧ Below w.heap.size w wr) (fun _ i _ => ps.length - (intOf i).toNat)
  case atStart => exact ⟨0, by omega, rfl, _, [], rfl, OBr.nil _ _ _ _, rfl, by unfold Hid; simp, Below.refl _ _⟩
  case round =>
    obtain ⟨k, hk, rfl, u, L, rfl, HO, HC, HLn, hb⟩ := hrel
    have hbs := hb.size
    by_cases hlt : k < ps.length
    · have hka : k < ats.length := by rw [← HPL.out]; exact hlt
      have hkv : k < vs.length := by rw [HVL.out]; exact hka
      have hkI : (k : Int) < (ps.length : Int) := by omega
      have hkI2 : (k : Int) < (vs.length : Int) := by omega
      have HT := Lib.hid (sum_take_succ wP ps k hlt)
      have HLe := Lib.hid (sum_take_le wP ps (k + 1))
      have HKK := Lib.hid (kidB_at (d := d) hlt hkv)
      obtain ⟨bp, op, rfl, hbp, hvp⟩ := (HP.out.keep (w' := wr) (fun q hq => hb.cell (p := q) (by omega)) (Nat.le_refl _)).2 k hlt
      obtain ⟨e1, he1, D', cp, c0, c1, c2, c3, c4, c5, hm⟩ := hvp.parts
      obtain ⟨bv, ov, rfl, hbv, hvv⟩ := (HV.out.keep (w' := wr) (fun q hq => hb.cell (p := q) (by omega)) (Nat.le_refl _)).2 k hkv
      obtain ⟨e2, he2, E', cv, v0, v1, v2, hmv⟩ := hvv.parts
      obtain ⟨wb, hwb⟩ : ∃ wb, wb = wr.alloc (.cells #[.int .i64 ps[k].op, .int .i64 ps[k].ctor, .int .i64 ps[k].n, .int .i64 ps[k].m, .int .i64 ps[k].var, .slice D' ps[k].kids.length cp] 28) := ⟨_, rfl⟩
      have hbb : Below wr.heap.size wr wb := by rw [hwb]; exact (Below.refl _ _).alloc (Nat.le_refl _) _
      have HXP : Hid (PBx wb wr.heap.size ps[k] (.slice D' ps[k].kids.length cp)) := by rw [hwb]; exact ⟨by simp [go_sem], by simp [go_sem], by simp [go_sem], by simp [go_sem], by simp [go_sem], by simp [go_sem]⟩
      have HWB := Lib.hid hwb
      have hbw := below_aft hb hbb hb.size
      obtain ⟨y0, y1, y2, y3, y4, y5⟩ := HXP.out
      have z0 := (hbb.cell (p := ⟨bv, ov + k * 3, none⟩) (Go.block_lt_of_cell v0)).trans v0
      have z1 := (hbb.cell (p := ⟨bv, ov + k * 3 + 1, none⟩) (Go.block_lt_of_cell v1)).trans v1
      have z2 := (hbb.cell (p := ⟨bv, ov + k * 3 + 2, none⟩) (Go.block_lt_of_cell v2)).trans v2
      have HKS : Hid (∀ W, Below wb.heap.size wb W → W.cell? ⟨wr.heap.size, 0, none⟩ = some (.int .i64 ps[k].op) ∧ W.cell? ⟨wr.heap.size, 1, none⟩ = some (.int .i64 ps[k].ctor) ∧ W.cell? ⟨wr.heap.size, 2, none⟩ = some (.int .i64 ps[k].n) ∧ W.cell? ⟨wr.heap.size, 3, none⟩ = some (.int .i64 ps[k].m) ∧ W.cell? ⟨wr.heap.size, 4, none⟩ = some (.int .i64 ps[k].var) ∧ W.cell? ⟨wr.heap.size, 5, none⟩ = some (.slice D' ps[k].kids.length cp) ∧ W.cell? ⟨bv, ov + k * 3, none⟩ = some (.int .i64 vs[k].ctor) ∧ W.cell? ⟨bv, ov + k * 3 + 1, none⟩ = some (.int .i64 vs[k].n) ∧ W.cell? ⟨bv, ov + k * 3 + 2, none⟩ = some (.slice E' vs[k].kids.length cv)) := fun W h => ⟨(h.cell (p := ⟨wr.heap.size, 0, none⟩) (Go.block_lt_of_cell y0)).trans y0, (h.cell (p := ⟨wr.heap.size, 1, none⟩) (Go.block_lt_of_cell y1)).trans y1, (h.cell (p := ⟨wr.heap.size, 2, none⟩) (Go.block_lt_of_cell y2)).trans y2, (h.cell (p := ⟨wr.heap.size, 3, none⟩) (Go.block_lt_of_cell y3)).trans y3, (h.cell (p := ⟨wr.heap.size, 4, none⟩) (Go.block_lt_of_cell y4)).trans y4, (h.cell (p := ⟨wr.heap.size, 5, none⟩) (Go.block_lt_of_cell y5)).trans y5, (h.cell (p := ⟨bv, ov + k * 3, none⟩) (Go.block_lt_of_cell z0)).trans z0, (h.cell (p := ⟨bv, ov + k * 3 + 1, none⟩) (Go.block_lt_of_cell z1)).trans z1, (h.cell (p := ⟨bv, ov + k * 3 + 2, none⟩) (Go.block_lt_of_cell z2)).trans z2⟩
      have HE2 : Hid (e' = e2 + 1) := he2
      have hwk : wP ps[k] ≤ 100 := by have a := HT.out; have c := HLe.out; have f := HSum.out; omega
      have HCI : Hid (∀ W, Below wb.heap.size wb W → Calls Tryz.prog 55 #[.agg #[.int .i64 ps[k].op, .int .i64 ps[k].ctor, .int .i64 ps[k].n, .int .i64 ps[k].m, .int .i64 ps[k].var, .slice D' ps[k].kids.length cp], .agg #[.int .i64 vs[k].ctor, .int .i64 vs[k].n, .slice E' vs[k].kids.length cv]] W (BfQ e2 B (1 + wP ps[k]) (mtI d ps[k] vs[k]) W)) := fun W h => IH.out n e1 e2 B D' E' cp cv ats[k] ps[k] vs[k] W (HSH.out k hka hlt) (HFK.out k hka hkv) (hm.keep (fun q hq => (below_aft hbb h hbb.size).cell (p := q) (by omega)) (Nat.le_refl _)) (hmv.keep (fun q hq => (below_aft hbb h hbb.size).cell (p := q) (by omega)) (Nat.le_refl _)) (by have := h.size; have := hbb.size; omega) hwk
      have HBD : Hid (Below wb.heap.size wb wb.drew) := (Below.refl _ wb).drew
      have SQ := HKS.out wb.drew HBD.out
      obtain ⟨o, ho0⟩ : ∃ o, mtI d ps[k] vs[k] = o := ⟨_, rfl⟩
      rw [ho0] at HCI
      have HOO := Lib.hid ho0
      clear hm hmv hvp hvv he1 he2 y0 y1 y2 y3 y4 y5 z0 z1 z2 ho0 hwb
      cases o with
      | none =>
        have HNO : Hid (catO (kidB d ps vs) ps.length = none) := catO_none hlt (HKK.out.trans HOO.out)
        go_wp2_with fail
        rw [← HWB.out]
        go_region_held3 (fun w' => w'.cell? ⟨wr.heap.size, 0, none⟩ = some (.int .i64 ps[k].op) ∧ w'.cell? ⟨wr.heap.size, 1, none⟩ = some (.int .i64 ps[k].ctor) ∧ w'.cell? ⟨wr.heap.size, 2, none⟩ = some (.int .i64 ps[k].n) ∧ w'.cell? ⟨wr.heap.size, 3, none⟩ = some (.int .i64 ps[k].m) ∧ w'.cell? ⟨wr.heap.size, 4, none⟩ = some (.int .i64 ps[k].var) ∧ w'.cell? ⟨wr.heap.size, 5, none⟩ = some (.slice D' ps[k].kids.length cp) ∧ w'.cell? ⟨bv, ov + k * 3, none⟩ = some (.int .i64 vs[k].ctor) ∧ w'.cell? ⟨bv, ov + k * 3 + 1, none⟩ = some (.int .i64 vs[k].n) ∧ w'.cell? ⟨bv, ov + k * 3 + 2, none⟩ = some (.slice E' vs[k].kids.length cv)) (first | with_reducible exact SQ | go_keep) (first | (go_at_call 55; (with_reducible refine (HCI.out wb.drew HBD.out).mono ?_); intro e1 w1 hq1; obtain ⟨u2, L2, rfl, ho, hn, hb'⟩ := hq1.none_; have hbq : Below wb.heap.size wb w1 := ⟨hb'.os, hb'.tape, hb'.output, hb'.size, hb'.block⟩; have SQ := HKS.out _ hbq; clear hq1 ho hn hb'))
        all_goals
          clear SQ c0 c1 c2 c3 c4 c5 v0 v1 v2
          have hbe := below_aft hbw hbq hbw.size
          go_wp2_with fail
          go_ret2
          exact BfQ.no HNO.out hbe
      | some M =>
        have HCN : Hid (catO (kidB d ps vs) (k + 1) = some (L ++ M)) := catO_some HC.out (HKK.out.trans HOO.out)
        go_wp2_with fail
        rw [← HWB.out]
        go_region_held3 (fun w' => w'.cell? ⟨wr.heap.size, 0, none⟩ = some (.int .i64 ps[k].op) ∧ w'.cell? ⟨wr.heap.size, 1, none⟩ = some (.int .i64 ps[k].ctor) ∧ w'.cell? ⟨wr.heap.size, 2, none⟩ = some (.int .i64 ps[k].n) ∧ w'.cell? ⟨wr.heap.size, 3, none⟩ = some (.int .i64 ps[k].m) ∧ w'.cell? ⟨wr.heap.size, 4, none⟩ = some (.int .i64 ps[k].var) ∧ w'.cell? ⟨wr.heap.size, 5, none⟩ = some (.slice D' ps[k].kids.length cp) ∧ w'.cell? ⟨bv, ov + k * 3, none⟩ = some (.int .i64 vs[k].ctor) ∧ w'.cell? ⟨bv, ov + k * 3 + 1, none⟩ = some (.int .i64 vs[k].n) ∧ w'.cell? ⟨bv, ov + k * 3 + 2, none⟩ = some (.slice E' vs[k].kids.length cv)) (first | with_reducible exact SQ | go_keep) (first | (go_at_call 55; (with_reducible refine (HCI.out wb.drew HBD.out).mono ?_); intro e1 w1 hq1; obtain ⟨u2, rfl, ho, hn, hb'⟩ := hq1.some_; have hbq : Below wb.heap.size wb w1 := ⟨hb'.os, hb'.tape, hb'.output, hb'.size, hb'.block⟩; have SQ := HKS.out _ hbq; have HOM := Lib.hid ho; have HN := Lib.hid hn; clear hq1 ho hn hb'))
        clear SQ c0 c1 c2 c3 c4 c5 v0 v1 v2
        have hbe := below_aft hbw hbq hbw.size
        have hws := hbw.size
        have hqs := hbq.size
        have HO2 : Hid (OBr e' w1 w.heap.size B u L) := HO.out.at_ (below_aft hbb hbq hbb.size) (by omega)
        obtain ⟨xs, hown, hrow⟩ := HO2.out
        have HOX := Lib.hid hown
        have HXR := Lib.hid hrow
        have HXL := Lib.hid hown.1
        have HOW : Hid (∀ g, u.ownBlock = some g → w.heap.size ≤ g) := fun g e => (hown.lt g e).1
        have hbes : w.heap.size ≤ w1.heap.size := hbe.size
        have hLM : L.length + M.length ≤ 1000 := by have a := HLn.out; have c := HN.out; have f := HT.out; have g := HLe.out; have h := HSum.out; omega
        have HLM : Hid ((L ++ M).length ≤ k + 1 + ((ps.take (k + 1)).map wP).sum) := by unfold Hid; have a := HLn.out; have c := HN.out; have f := HT.out; rw [List.length_append]; omega
        clear hown hrow hbq
        rcases HOM.out.is with ⟨rfl, hnil⟩ | ⟨g, cap2, ys, rfl, _, hgl, hyl, hyr, hyc⟩
        · have HRR : Hid (OBr e' w1 w.heap.size B u (L ++ M)) := by unfold Hid; rw [hnil, List.append_nil]; exact ⟨xs, HOX.out, HXR.out⟩
          clear hnil
          go_wp2_with (at_builtin; refine wpList_append_own_none rfl _ _ 34 rfl w.heap.size 41 i0 4 Tryz.underlying34 hi u _ xs rfl HOX.out rfl ?_)
          go_roundw
          case rel => exact ⟨k + 1, by omega, by go_num, _, _, rfl, HRR.out, HCN.out, HLM.out, hbe⟩
          case measure => simp [intOf]; omega
        · have HYL := Lib.hid hyl
          have HYR : Hid (RBr e' w1 B M ys) := by unfold Hid; rw [HE2.out]; exact hyr.more (by omega)
          have HYC := Lib.hid hyc
          have HY1 := Lib.hid (hyr.one hyl)
          have HB47 : Hid (L.length + M.length ≤ maxLen ∧ (L.length + M.length) * 48 ≤ 140737488355328) := ⟨by unfold maxLen; omega, by omega⟩
          clear hyl hyr hyc
          go_wp2_with (at_builtin; refine wpList_append_own _ rfl _ _ 34 rfl w.heap.size 41 i0 _ 4 48 Tryz.underlying34 hi hz0 hz1 hz2 rfl (by decide) u _ xs rfl HOX.out ⟨g, 0, none⟩ M.length cap2 ys rfl HYL.out HYC.out HY1.out HB47.out.1 HB47.out.2 hbes ?_; intro v' w2 hown' hgr' _)
          have hb2 : Below w.heap.size w w2 := hbe.grown hgr' hbes HOW.out
          have hk2 : ∀ q : Addr, q.block < B → w2.cell? q = w1.cell? q := fun q hq => by rw [hb2.cell (p := q) (by omega), hbe.cell (p := q) (by omega)]
          have HRR : Hid (OBr e' w2 w.heap.size B v' (L ++ M)) := by
            refine ⟨xs ++ ys, ?_, (HXR.out.keep hk2).cat HXL.out (HYR.out.keep hk2)⟩
            rw [List.length_append]
            exact hown'
          clear hown' hgr' hk2
          go_roundw
          case rel => exact ⟨k + 1, by omega, by go_num, _, _, rfl, HRR.out, HCN.out, HLM.out, hb2⟩
          case measure => simp [intOf]; omega
    · have he : k = ps.length := by omega
      have hkI : (ps.length : Int) ≤ (k : Int) := by omega
      have HE : Hid (catO (kidB d ps vs) ps.length = some L) := by unfold Hid; rw [← he]; exact HC.out
      have HLN : Hid (L.length ≤ wPs ps) := by unfold Hid; rw [HSum.out]; have a := HLn.out; rw [he, List.take_length] at a; exact a
      clear he
      go_wp2_with fail
      go_ret2
      exact ⟨_, _, L, rfl, HO.out, by rw [HE.out]; rfl, fun L1 h => by rw [HE.out] at h; exact Option.some.inj h, HLN.out, hb⟩
theorem bf_any (l : List Da) : ∀ d, BfC l d
  | 0 => fun n e e' B D E ep ev t p v w hs hf hp hv hB hN => by rw [shP_zero] at hs; cases hs
  | d + 1 => fun n e e' B D E ep ev t p v w hs hf hp hv hB hN => by
    have ih := bf_any l d
    rcases own_ops (shP_parts hs).1 with h | h | h | h | h | h
    · exact bf_1 l d ih n e e' B D E ep ev t p v w hs hf hp hv hB hN h
    · exact bf_2 l d ih n e e' B D E ep ev t p v w hs hf hp hv hB hN h
    · by_cases h1 : p.n ≤ v.n
      · by_cases h2 : v.n ≤ p.m
        · exact bf_3a l d ih n e e' B D E ep ev t p v w hs hf hp hv hB hN h1 h2 h
        · exact bf_3c l d ih n e e' B D E ep ev t p v w hs hf hp hv hB hN h1 h2 h
      · exact bf_3b l d ih n e e' B D E ep ev t p v w hs hf hp hv hB hN h1 h
    · by_cases h1 : p.ctor = v.ctor
      · exact bf_41 l d ih (bk_of l d ih) n e e' B D E ep ev t p v w hs hf hp hv hB hN h1 h
      · exact bf_40 l d ih n e e' B D E ep ev t p v w hs hf hp hv hB hN h1 h
    · cases hq : mtI d (p.kids.getD 0 default) v with
      | none => exact bf_51 l d ih n e e' B D E ep ev t p v w hs hf hp hv hB hN hq h
      | some L0 => exact bf_50 l d ih L0 n e e' B D E ep ev t p v w hs hf hp hv hB hN hq h
    · exact bf_6 l d ih n e e' B D E ep ev t p v w hs hf hp hv hB hN h
end Go.Proofs.YthdnfnmglhifmaaGreat
