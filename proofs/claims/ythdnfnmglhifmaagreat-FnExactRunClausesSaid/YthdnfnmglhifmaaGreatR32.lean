/-
  GuardHolds of the program. No statement is proved here.
-/
import Derived.Test.YthdnfnmglhifmaaGreatR30
import Derived.Test.YthdnfnmglhifmaaGreatR31
import Derived.Test.YthdnfnmglhifmaaGreatR14
import Derived.Deep.RegionHeld3
namespace Go.Proofs.YthdnfnmglhifmaaGreat
open Go.RowKit Go.Sort Go.Deep
set_option maxRecDepth 100000
set_option linter.unusedVariables false
set_option maxHeartbeats 1600000 in
theorem gh_lt (d : Nat) (A : Option Addr) (l : List Bn) (cap : Nat) (g1 g2 : Int) (w : World) (hr : RBs d w w.heap.size A l) :
    Calls Tryz.prog 24 #[.agg #[.int .i64 1, .int .i64 g1, .int .i64 g2], .slice A l.length cap] w fun e w' => e = .returned (.bool (fndB 1 g1 g2 l)) ∧ Below w.heap.size w w' := by
  have Hr := Lib.hid hr
  clear hr
  generalize hw0 : w.alloc (.cells #[.int .i64 1, .int .i64 g1, .int .i64 g2] 55) = w0
  have hb0 : Below w.heap.size w w0 := by rw [← hw0]; exact (Below.refl _ _).alloc (Nat.le_refl _) _
  have HX : Hid (GBx w0 w.heap.size 1 g1 g2) := by rw [← hw0]; exact ⟨by simp [go_sem], by simp [go_sem], by simp [go_sem]⟩
  have HW := Lib.hid hw0
  clear hw0
  obtain ⟨x0, x1, x2⟩ := HX.out
  have hn := Hr.out.1
  unfold maxLen at hn
  have HC := Lib.hid (cond_lt g1 g2 w0)
  have hm0 : ∀ w, (method 468 196 (.int .i64 g2) "loop.example/matchcompiler/impl.holdsFor").run Tryz.prog w = .ok (303, .int .i64 g2) w := fun w => by kernel_rfl
  go_enter Tryz.func24, Tryz.ntmps24
  go_wp2_with (go_at_call 75; (try rw [HW.out]); refine HC.out.mono ?_; rintro e1 w1 ⟨rfl, hb1⟩; obtain ⟨y0, y1, y2⟩ := HX.out.at_ hb1; have hb1w := below_aft hb0 hb1 hb0.size)
  refine (indexG_any d w.heap.size A l cap g1 _ (Hr.out.at_ hb1w) y1).mono ?_
  rintro e2 w2 ⟨r, rfl, hf, hb2⟩
  have hb2w := below_aft hb1w hb2 hb1w.size
  obtain ⟨z0, z1, z2⟩ := (HX.out.at_ hb1).at_ hb2
  clear x0 x1 x2 y0 y1 y2
  rcases hf with ⟨rfl, hno⟩ | ⟨k, hk, rfl, hv, hno⟩
  · have HF : Hid (fndB 1 g1 g2 l = false) := fnd_none hno
    clear hno
    go_wp2_with fail
    go_ret
    exact ⟨ret_bool HF.out.symm, hb2w⟩
  · have HF : Hid (fndB 1 g1 g2 l = okB 1 g2 l[k].val) := fnd_at hk hno hv
    clear hno hv
    obtain ⟨b, off, rfl, hbB, A', cp, c0, c1, c2, c3, hm⟩ := (Hr.out.at_ hb2w).2 k hk
    have hkI : (k : Int) < (l.length : Int) := by omega
    have qk : decide ((k : Int) < 0) = false := decide_eq_false (by omega)
    have c2' : w2.cell? ⟨b, off + k * 4 + 1 + 1, none⟩ = some (.int .i64 l[k].val.n) := c2
    have c3' : w2.cell? ⟨b, off + k * 4 + 1 + 2, none⟩ = some (.slice A' l[k].val.kids.length cp) := c3
    have hsz2 : w.heap.size ≤ w2.heap.size := hb2w.size
    clear hm
    by_cases hc : l[k].val.ctor = -1
    · have u := ieq_t hc
      have HF2 : Hid (fndB 1 g1 g2 l = decide (l[k].val.n < g2)) := by unfold Hid; rw [HF.out, ok_less hc rfl]
      clear hc
      go_wp2_with (go_at_call 303; refine (holds_lt g2 l[k].val.n _).mono ?_; rintro e3 w3 ⟨rfl, rfl⟩)
      go_ret
      exact ⟨ret_bool HF2.out.symm, by first | exact hb2w | exact (hb2w.alloc (by omega) _)⟩
    · have u := ieq_f hc
      have HF2 : Hid (fndB 1 g1 g2 l = false) := by unfold Hid; rw [HF.out, ok_ctor hc]
      clear hc
      go_wp2_with fail
      go_ret
      exact ⟨ret_bool HF2.out.symm, by first | exact hb2w | exact (hb2w.alloc (by omega) _)⟩
set_option maxHeartbeats 1600000 in
theorem gh_eq (d : Nat) (A : Option Addr) (l : List Bn) (cap : Nat) (g1 g2 : Int) (w : World) (hr : RBs d w w.heap.size A l) :
    Calls Tryz.prog 24 #[.agg #[.int .i64 2, .int .i64 g1, .int .i64 g2], .slice A l.length cap] w fun e w' => e = .returned (.bool (fndB 2 g1 g2 l)) ∧ Below w.heap.size w w' := by
  have Hr := Lib.hid hr
  clear hr
  generalize hw0 : w.alloc (.cells #[.int .i64 2, .int .i64 g1, .int .i64 g2] 55) = w0
  have hb0 : Below w.heap.size w w0 := by rw [← hw0]; exact (Below.refl _ _).alloc (Nat.le_refl _) _
  have HX : Hid (GBx w0 w.heap.size 2 g1 g2) := by rw [← hw0]; exact ⟨by simp [go_sem], by simp [go_sem], by simp [go_sem]⟩
  have HW := Lib.hid hw0
  clear hw0
  obtain ⟨x0, x1, x2⟩ := HX.out
  have hn := Hr.out.1
  unfold maxLen at hn
  have HC := Lib.hid (cond_eq g1 g2 w0)
  have hm0 : ∀ w, (method 468 197 (.int .i64 g2) "loop.example/matchcompiler/impl.holdsFor").run Tryz.prog w = .ok (305, .int .i64 g2) w := fun w => by kernel_rfl
  go_enter Tryz.func24, Tryz.ntmps24
  go_wp2_with (go_at_call 75; (try rw [HW.out]); refine HC.out.mono ?_; rintro e1 w1 ⟨rfl, hb1⟩; obtain ⟨y0, y1, y2⟩ := HX.out.at_ hb1; have hb1w := below_aft hb0 hb1 hb0.size)
  refine (indexG_any d w.heap.size A l cap g1 _ (Hr.out.at_ hb1w) y1).mono ?_
  rintro e2 w2 ⟨r, rfl, hf, hb2⟩
  have hb2w := below_aft hb1w hb2 hb1w.size
  obtain ⟨z0, z1, z2⟩ := (HX.out.at_ hb1).at_ hb2
  clear x0 x1 x2 y0 y1 y2
  rcases hf with ⟨rfl, hno⟩ | ⟨k, hk, rfl, hv, hno⟩
  · have HF : Hid (fndB 2 g1 g2 l = false) := fnd_none hno
    clear hno
    go_wp2_with fail
    go_ret
    exact ⟨ret_bool HF.out.symm, hb2w⟩
  · have HF : Hid (fndB 2 g1 g2 l = okB 2 g2 l[k].val) := fnd_at hk hno hv
    clear hno hv
    obtain ⟨b, off, rfl, hbB, A', cp, c0, c1, c2, c3, hm⟩ := (Hr.out.at_ hb2w).2 k hk
    have hkI : (k : Int) < (l.length : Int) := by omega
    have qk : decide ((k : Int) < 0) = false := decide_eq_false (by omega)
    have c2' : w2.cell? ⟨b, off + k * 4 + 1 + 1, none⟩ = some (.int .i64 l[k].val.n) := c2
    have c3' : w2.cell? ⟨b, off + k * 4 + 1 + 2, none⟩ = some (.slice A' l[k].val.kids.length cp) := c3
    have hsz2 : w.heap.size ≤ w2.heap.size := hb2w.size
    clear hm
    by_cases hc : l[k].val.ctor = -1
    · have u := ieq_t hc
      have HF2 : Hid (fndB 2 g1 g2 l = decide (l[k].val.n = g2)) := by unfold Hid; rw [HF.out, ok_equal hc rfl]
      clear hc
      go_wp2_with (go_at_call 305; refine (holds_eq g2 l[k].val.n _).mono ?_; rintro e3 w3 ⟨rfl, rfl⟩)
      go_ret
      exact ⟨ret_bool HF2.out.symm, by first | exact hb2w | exact (hb2w.alloc (by omega) _)⟩
    · have u := ieq_f hc
      have HF2 : Hid (fndB 2 g1 g2 l = false) := by unfold Hid; rw [HF.out, ok_ctor hc]
      clear hc
      go_wp2_with fail
      go_ret
      exact ⟨ret_bool HF2.out.symm, by first | exact hb2w | exact (hb2w.alloc (by omega) _)⟩
end Go.Proofs.YthdnfnmglhifmaaGreat
/-
  GuardHolds of the program, every guard. No statement is proved here.
-/
namespace Go.Proofs.YthdnfnmglhifmaaGreat
open Go.RowKit Go.Sort Go.Deep
set_option maxRecDepth 100000
set_option linter.unusedVariables false
set_option maxHeartbeats 1600000 in
theorem gh_unk (d : Nat) (A : Option Addr) (l : List Bn) (cap : Nat) (g0 g1 g2 : Int) (w : World) (hr : RBs d w w.heap.size A l) (h0 : ¬ g0 = 0) (h1 : ¬ (g0 = 1 ∨ g0 = 2)) :
    Calls Tryz.prog 24 #[.agg #[.int .i64 g0, .int .i64 g1, .int .i64 g2], .slice A l.length cap] w fun e w' => e = .returned (.bool false) ∧ Below w.heap.size w w' := by
  have Hr := Lib.hid hr
  clear hr
  generalize hw0 : w.alloc (.cells #[.int .i64 g0, .int .i64 g1, .int .i64 g2] 55) = w0
  have hb0 : Below w.heap.size w w0 := by rw [← hw0]; exact (Below.refl _ _).alloc (Nat.le_refl _) _
  have HX : Hid (GBx w0 w.heap.size g0 g1 g2) := by rw [← hw0]; exact ⟨by simp [go_sem], by simp [go_sem], by simp [go_sem]⟩
  have HW := Lib.hid hw0
  clear hw0
  obtain ⟨x0, x1, x2⟩ := HX.out
  have u0 := ieq_f h0
  have HD : Hid (decide (g0 = 1 ∨ g0 = 2) = false) := decide_eq_false h1
  have HC := Lib.hid (cond_any g0 g1 g2 w0)
  clear h0 h1
  go_enter Tryz.func24, Tryz.ntmps24
  go_wp2_with (go_at_call 75; (try rw [HW.out]); refine HC.out.mono ?_; rw [HD.out]; rintro e1 w1 ⟨v1, rfl, hb1⟩; obtain ⟨y0, y1, y2⟩ := HX.out.at_ hb1; have hb1w := below_aft hb0 hb1 hb0.size)
  refine (indexG_any d w.heap.size A l cap g1 _ (Hr.out.at_ hb1w) y1).mono ?_
  rintro e2 w2 ⟨r, rfl, hf, hb2⟩
  have hb2w := below_aft hb1w hb2 hb1w.size
  obtain ⟨z0, z1, z2⟩ := (HX.out.at_ hb1).at_ hb2
  clear x0 x1 x2 y0 y1 y2 hf
  go_wp2_with fail
  go_ret
  exact ⟨rfl, hb2w⟩
theorem gh_zero (A : Option Addr) (n cap : Nat) (g1 g2 : Int) (w : World) :
    Calls Tryz.prog 24 #[.agg #[.int .i64 0, .int .i64 g1, .int .i64 g2], .slice A n cap] w fun e w' => e = .returned (.bool true) ∧ Below w.heap.size w w' := by
  go_enter Tryz.func24, Tryz.ntmps24
  go_wp2_with fail
  go_ret
  exact ⟨rfl, (Below.refl _ _).alloc (Nat.le_refl _) _⟩
theorem gh_impl (d : Nat) (A : Option Addr) (l : List Bn) (cap : Nat) (g0 g1 g2 : Int) (w : World) (hr : RBs d w w.heap.size A l) :
    Calls Tryz.prog 24 #[.agg #[.int .i64 g0, .int .i64 g1, .int .i64 g2], .slice A l.length cap] w fun e w' => e = .returned (.bool (ghB g0 g1 g2 l)) ∧ Below w.heap.size w w' := by
  by_cases h0 : g0 = 0
  · subst h0
    exact gh_zero A l.length cap g1 g2 w
  · have e : ghB g0 g1 g2 l = fndB g0 g1 g2 l := if_neg h0
    rw [e]
    by_cases h1 : g0 = 1
    · subst h1; exact gh_lt d A l cap g1 g2 w hr
    · by_cases h2 : g0 = 2
      · subst h2; exact gh_eq d A l cap g1 g2 w hr
      · rw [fnd_unk (fun h => h.elim h1 h2)]
        exact gh_unk d A l cap g0 g1 g2 w hr h0 (fun h => h.elim h1 h2)
end Go.Proofs.YthdnfnmglhifmaaGreat
/-
  RunClauses of the program. No statement is proved here.
-/
namespace Go.Proofs.YthdnfnmglhifmaaGreat
open Go.RowKit Go.Sort Go.Deep
set_option maxRecDepth 100000
set_option linter.unusedVariables false
def RcI (d : Nat) (o : Int × List Bn × Bool) (w : World) (E : Ending) (w' : World) : Prop := ∃ A S c, E = .returned (.tuple #[.int .i64 o.1, .slice A S.length c, .bool o.2.2]) ∧ o.2.1 = S ∧ OBs (d + 1) w' (Nw w w') A S ∧ Below w.heap.size w w'
theorem RcI.no {d : Nat} {o : Int × List Bn × Bool} {w w' : World} {b : Bool} (h : o = (-1, [], b)) (hb : Below w.heap.size w w') : RcI d o w (.returned (.tuple #[.int .i64 (-1), .slice none 0 0, .bool b])) w' := by subst h; exact ⟨none, [], 0, rfl, rfl, OBs.nil _ _ _ _, hb⟩
set_option maxHeartbeats 4000000 in
theorem rc_i_1 (A C E : Option Addr) (l : List Da) (cap ccap ev e : Nat) (t : Ty) (L : List Cn) (v : Vl) (w : World) (hr : RDas w w.heap.size A l) (hc : RCs e w w.heap.size C L) (hv : RVs e w w.heap.size E v.kids) (hnv : wV v ≤ 16000000) (h0 : csB l t L = false) :
    Calls Tryz.prog 22 #[.slice A l.length cap, .agg #[.int .i64 t.data, .int .i64 t.index], .slice C L.length ccap, .agg #[.int .i64 v.ctor, .int .i64 v.n, .slice E v.kids.length ev]] w (RcI e (rcO l t L v) w) := by
  have HNV := Lib.hid hnv
  clear hnv
  have Hr := Lib.hid hr
  have HC := Lib.hid hc
  have HV := Lib.hid hv
  clear hr hc hv
  generalize hwx : (w.alloc (.cells #[.int .i64 t.data, .int .i64 t.index] 25)).alloc (.cells #[.int .i64 v.ctor, .int .i64 v.n, .slice E v.kids.length ev] 31) = wx
  have hbx : Below w.heap.size w wx := by rw [← hwx]; exact ((Below.refl _ _).alloc (Nat.le_refl _) _).alloc (by simp) _
  have hsx1 : w.heap.size + 2 ≤ wx.heap.size := by rw [← hwx]; simp
  have HXT : Hid (Bx wx w.heap.size t) := by rw [← hwx]; exact ⟨by simp [go_sem], by simp [go_sem]⟩
  have HXV : Hid (VBx wx (w.heap.size + 1) v.ctor v.n (.slice E v.kids.length ev)) := by rw [← hwx]; exact ⟨by simp [go_sem], by simp [go_sem], by simp [go_sem]⟩
  have HW := Lib.hid hwx
  clear hwx
  obtain ⟨x0, x1⟩ := HXT.out
  obtain ⟨z0, z1, z2⟩ := HXV.out
  have HB := Lib.hid h0
  have HM := Lib.hid (rc_no1 (v := v) h0)
  clear h0
  have HCS : Hid (∀ W, Below wx.heap.size wx W → Calls Tryz.prog 25 #[.slice A l.length cap, .agg #[.int .i64 t.data, .int .i64 t.index], .slice C L.length ccap] W fun e w' => e = .returned (.bool false) ∧ Below W.heap.size W w') := fun W h => by
    have hq := cs_impl A C l cap ccap e t L W ((Hr.out.at_ hbx).at_ h) ((HC.out.at_ hbx).at_ h)
    rw [HB.out] at hq
    exact hq
  go_enter Tryz.func22, Tryz.ntmps22
  go_wp2_with (first
    | (go_at_call 25; (try rw [HW.out]); (with_reducible refine (HCS.out wx (Below.refl _ _)).mono ?_); rintro e1 w1 ⟨rfl, hb1⟩; have HX1 := Lib.hid (And.intro (HXT.out.at_ hb1) (HXV.out.at_ hb1)); have hbw1 := below_aft hbx hb1 hbx.size; obtain ⟨x0', x1'⟩ := HX1.out.1; obtain ⟨z0', z1', z2'⟩ := HX1.out.2; clear x0 x1 z0 z1 z2)
    | fail)
  go_ret3
  exact RcI.no HM.out hbw1
set_option maxHeartbeats 4000000 in
theorem rc_i_2 (A C E : Option Addr) (l : List Da) (cap ccap ev e : Nat) (t : Ty) (L : List Cn) (v : Vl) (w : World) (hr : RDas w w.heap.size A l) (hc : RCs e w w.heap.size C L) (hv : RVs e w w.heap.size E v.kids) (hnv : wV v ≤ 16000000) (h0 : csB l t L = true) (h1 : isV l t v = false) :
    Calls Tryz.prog 22 #[.slice A l.length cap, .agg #[.int .i64 t.data, .int .i64 t.index], .slice C L.length ccap, .agg #[.int .i64 v.ctor, .int .i64 v.n, .slice E v.kids.length ev]] w (RcI e (rcO l t L v) w) := by
  have HNV := Lib.hid hnv
  clear hnv
  have Hr := Lib.hid hr
  have HC := Lib.hid hc
  have HV := Lib.hid hv
  clear hr hc hv
  generalize hwx : (w.alloc (.cells #[.int .i64 t.data, .int .i64 t.index] 25)).alloc (.cells #[.int .i64 v.ctor, .int .i64 v.n, .slice E v.kids.length ev] 31) = wx
  have hbx : Below w.heap.size w wx := by rw [← hwx]; exact ((Below.refl _ _).alloc (Nat.le_refl _) _).alloc (by simp) _
  have hsx1 : w.heap.size + 2 ≤ wx.heap.size := by rw [← hwx]; simp
  have HXT : Hid (Bx wx w.heap.size t) := by rw [← hwx]; exact ⟨by simp [go_sem], by simp [go_sem]⟩
  have HXV : Hid (VBx wx (w.heap.size + 1) v.ctor v.n (.slice E v.kids.length ev)) := by rw [← hwx]; exact ⟨by simp [go_sem], by simp [go_sem], by simp [go_sem]⟩
  have HW := Lib.hid hwx
  clear hwx
  obtain ⟨x0, x1⟩ := HXT.out
  obtain ⟨z0, z1, z2⟩ := HXV.out
  have HB := Lib.hid h0
  have HK := Lib.hid (cs_parts h0).1
  have HI := Lib.hid h1
  have HM := Lib.hid (rc_no2 (L := L) h1)
  clear h0 h1
  have HCS : Hid (∀ W, Below wx.heap.size wx W → Calls Tryz.prog 25 #[.slice A l.length cap, .agg #[.int .i64 t.data, .int .i64 t.index], .slice C L.length ccap] W fun e w' => e = .returned (.bool true) ∧ Below W.heap.size W w') := fun W h => by
    have hq := cs_impl A C l cap ccap e t L W ((Hr.out.at_ hbx).at_ h) ((HC.out.at_ hbx).at_ h)
    rw [HB.out] at hq
    exact hq
  have HIV : Hid (∀ W, Below wx.heap.size wx W → Calls Tryz.prog 18 #[.slice A l.length cap, .agg #[.int .i64 t.data, .int .i64 t.index], .agg #[.int .i64 v.ctor, .int .i64 v.n, .slice E v.kids.length ev]] W fun e w' => e = .returned (.bool false) ∧ Below W.heap.size W w') := fun W h => by
    have hq := vv_impl A E l cap ev e t v W ((Hr.out.at_ hbx).at_ h) ((HV.out.at_ hbx).at_ h) HNV.out
    rw [vvT_yes HK.out, HI.out] at hq
    exact hq
  go_enter Tryz.func22, Tryz.ntmps22
  go_wp2_with (first
    | (go_at_call 25; (try rw [HW.out]); (with_reducible refine (HCS.out wx (Below.refl _ _)).mono ?_); rintro e1 w1 ⟨rfl, hb1⟩; have HX1 := Lib.hid (And.intro (HXT.out.at_ hb1) (HXV.out.at_ hb1)); have hbw1 := below_aft hbx hb1 hbx.size; obtain ⟨x0', x1'⟩ := HX1.out.1; obtain ⟨z0', z1', z2'⟩ := HX1.out.2; clear x0 x1 z0 z1 z2)
    | (go_at_call 18; (with_reducible refine (HIV.out w1 hb1).mono ?_); rintro e2 w2 ⟨rfl, hb2⟩; have hb12 := below_aft hb1 hb2 hb1.size; have hbw2 := below_aft hbx hb12 hbx.size; have HX2 := Lib.hid (And.intro (HXT.out.at_ hb12) (HXV.out.at_ hb12)); obtain ⟨a0, a1⟩ := HX2.out.1; obtain ⟨d0, d1, d2⟩ := HX2.out.2; clear x0' x1' z0' z1' z2')
    | fail)
  go_ret3
  exact RcI.no HM.out hbw2
set_option maxHeartbeats 4000000 in
theorem rc_i_3 (A C E : Option Addr) (l : List Da) (cap ccap ev e : Nat) (t : Ty) (L : List Cn) (v : Vl) (w : World) (hr : RDas w w.heap.size A l) (hc : RCs e w w.heap.size C L) (hv : RVs e w w.heap.size E v.kids) (hnv : wV v ≤ 16000000) (h0 : csB l t L = true) (h1 : isV l t v = true) :
    Calls Tryz.prog 22 #[.slice A l.length cap, .agg #[.int .i64 t.data, .int .i64 t.index], .slice C L.length ccap, .agg #[.int .i64 v.ctor, .int .i64 v.n, .slice E v.kids.length ev]] w (RcI e (rcO l t L v) w) := by
  have HNV := Lib.hid hnv
  clear hnv
  have Hr := Lib.hid hr
  have HC := Lib.hid hc
  have HV := Lib.hid hv
  clear hr hc hv
  generalize hwx : (w.alloc (.cells #[.int .i64 t.data, .int .i64 t.index] 25)).alloc (.cells #[.int .i64 v.ctor, .int .i64 v.n, .slice E v.kids.length ev] 31) = wx
  have hbx : Below w.heap.size w wx := by rw [← hwx]; exact ((Below.refl _ _).alloc (Nat.le_refl _) _).alloc (by simp) _
  have hsx1 : w.heap.size + 2 ≤ wx.heap.size := by rw [← hwx]; simp
  have HXT : Hid (Bx wx w.heap.size t) := by rw [← hwx]; exact ⟨by simp [go_sem], by simp [go_sem]⟩
  have HXV : Hid (VBx wx (w.heap.size + 1) v.ctor v.n (.slice E v.kids.length ev)) := by rw [← hwx]; exact ⟨by simp [go_sem], by simp [go_sem], by simp [go_sem]⟩
  have HW := Lib.hid hwx
  clear hwx
  obtain ⟨x0, x1⟩ := HXT.out
  obtain ⟨z0, z1, z2⟩ := HXV.out
  have HB := Lib.hid h0
  have HK := Lib.hid (cs_parts h0).1
  have HAC := Lib.hid (cs_parts h0).2.2
  have HI := Lib.hid h1
  have HM := Lib.hid (rc_yes h0 h1)
  clear h0 h1
  have HCS : Hid (∀ W, Below wx.heap.size wx W → Calls Tryz.prog 25 #[.slice A l.length cap, .agg #[.int .i64 t.data, .int .i64 t.index], .slice C L.length ccap] W fun e w' => e = .returned (.bool true) ∧ Below W.heap.size W w') := fun W h => by
    have hq := cs_impl A C l cap ccap e t L W ((Hr.out.at_ hbx).at_ h) ((HC.out.at_ hbx).at_ h)
    rw [HB.out] at hq
    exact hq
  have HIV : Hid (∀ W, Below wx.heap.size wx W → Calls Tryz.prog 18 #[.slice A l.length cap, .agg #[.int .i64 t.data, .int .i64 t.index], .agg #[.int .i64 v.ctor, .int .i64 v.n, .slice E v.kids.length ev]] W fun e w' => e = .returned (.bool true) ∧ Below W.heap.size W w') := fun W h => by
    have hq := vv_impl A E l cap ev e t v W ((Hr.out.at_ hbx).at_ h) ((HV.out.at_ hbx).at_ h) HNV.out
    rw [vvT_yes HK.out, HI.out] at hq
    exact hq
  have hn := HC.out.1
  unfold maxLen at hn
  go_enter Tryz.func22, Tryz.ntmps22
  go_wp2_with (first
    | (go_at_call 25; (try rw [HW.out]); (with_reducible refine (HCS.out wx (Below.refl _ _)).mono ?_); rintro e1 w1 ⟨rfl, hb1⟩; have HX1 := Lib.hid (And.intro (HXT.out.at_ hb1) (HXV.out.at_ hb1)); have hbw1 := below_aft hbx hb1 hbx.size; obtain ⟨x0', x1'⟩ := HX1.out.1; obtain ⟨z0', z1', z2'⟩ := HX1.out.2; clear x0 x1 z0 z1 z2)
    | (go_at_call 18; (with_reducible refine (HIV.out w1 hb1).mono ?_); rintro e2 w2 ⟨rfl, hb2⟩; have hb12 := below_aft hb1 hb2 hb1.size; have hbw2 := below_aft hbx hb12 hbx.size; have HX2 := Lib.hid (And.intro (HXT.out.at_ hb12) (HXV.out.at_ hb12)); obtain ⟨a0, a1⟩ := HX2.out.1; obtain ⟨d0, d1, d2⟩ := HX2.out.2; clear x0' x1' z0' z1' z2')
    | fail)
  clear a0 a1 d0 d1 d2
  go_loopw [29] (fun i wr => ∃ k : Nat, k ≤ L.length ∧ i = .int .i64 k ∧ Hid (NoF v L k) ∧ Below w2.heap.size w2 wr) (fun i _ => L.length - (intOf i).toNat)
  case atStart => exact ⟨0, by omega, rfl, NoF.zero, Below.refl _ _⟩
  case round =>
    obtain ⟨k, hk, rfl, hno, hbr⟩ := hrel
    have hb := below_aft hbw2 hbr hbw2.size
    by_cases hlt : k < L.length
    · obtain ⟨g, off, rfl, hbB, A', cp, c0, c1, c2, c3', c4, c5, c6, c7, c8, hm⟩ := (HC.out.below hb (Nat.le_refl _)).2 k hlt
      have hkI : (k : Int) < (L.length : Int) := by omega
      have hsb := hb.size
      have hgr : g < wr.heap.size := by omega
      obtain ⟨wb, hwb⟩ : ∃ wb, wb = wr.alloc (.cells #[.int .i64 L[k].pat.op, .int .i64 L[k].pat.ctor, .int .i64 L[k].pat.n, .int .i64 L[k].pat.m, .int .i64 L[k].pat.var, .slice A' L[k].pat.kids.length cp, .int .i64 L[k].g0, .int .i64 L[k].g1, .int .i64 L[k].g2] 57) := ⟨_, rfl⟩
      have hbb : Below wr.heap.size wr wb := by rw [hwb]; exact (Below.refl _ _).alloc (Nat.le_refl _) _
      have HXC : Hid (CBx wb wr.heap.size L[k].pat (.slice A' L[k].pat.kids.length cp) L[k].g0 L[k].g1 L[k].g2) := by rw [hwb]; exact ⟨⟨by simp [go_sem], by simp [go_sem], by simp [go_sem], by simp [go_sem], by simp [go_sem], by simp [go_sem]⟩, by simp [go_sem], by simp [go_sem], by simp [go_sem]⟩
      have hsbb : wr.heap.size < wb.heap.size := by rw [hwb]; simp
      have HWB := Lib.hid hwb
      have hbwb := below_aft hb hbb hb.size
      have hbx2 := below_aft hb12 (below_aft hbr hbb hbr.size) hb12.size
      obtain ⟨y0, y1⟩ := HXT.out.at_ (below_aft hb12 hbr hb12.size)
      obtain ⟨z0, z1, z2⟩ := HXV.out.at_ (below_aft hb12 hbr hb12.size)
      have hsx2 := (below_aft hbx (below_aft hb12 hbr hb12.size) hbx.size).size
      have hsx3 := (below_aft hb12 hbr hb12.size).size
      have hsx4 : w.heap.size + 1 < wr.heap.size := by omega
      have hsx5 : w.heap.size < wr.heap.size := by omega
      have HMI : Hid (∀ W, Below wr.heap.size wr W → Calls Tryz.prog 14 #[.slice A l.length cap, .agg #[.int .i64 t.data, .int .i64 t.index], .agg #[.int .i64 L[k].pat.op, .int .i64 L[k].pat.ctor, .int .i64 L[k].pat.n, .int .i64 L[k].pat.m, .int .i64 L[k].pat.var, .slice A' L[k].pat.kids.length cp], .agg #[.int .i64 v.ctor, .int .i64 v.n, .slice E v.kids.length ev]] W (MqI e (mqO l t L[k].pat v) W)) := fun W h => mi_any A A' E l cap cp ev e t L[k].pat v W (Hr.out.at_ (below_aft hb h hb.size)) (hm.keep (fun q hq => h.cell (p := q) (by omega)) (by have := h.size; omega)) (HV.out.at_ (below_aft hb h hb.size)) HNV.out
      clear hwb
      rcases fit_mq (HAC.out _ (List.getElem_mem hlt)) HI.out with ⟨hq, hf⟩ | ⟨S, hq, hf⟩
      · rw [hq] at HMI
        have HN := Lib.hid (hno.out.step hlt hf)
        clear hq hf hno hm
        go_wp2_with (first
          | (go_at_call 14; (try rw [← HWB.out]); (with_reducible refine (HMI.out wb hbb).mono ?_); rintro e3 w3 ⟨A3, S3, c3, rfl, hS3, ho3, hb3⟩; obtain ⟨b0, b1, b2, b3, b4, b5⟩ := (HXC.out.at_ hb3).1; obtain ⟨b6, b7, b8⟩ := (HXC.out.at_ hb3).2; have hb3r := below_aft hbb hb3 hbb.size)
          | fail)
        go_roundw
        case rel => exact ⟨k + 1, by omega, by go_num, HN, below_aft hbr hb3r hbr.size⟩
        case measure => simp [intOf]; omega
      · rw [hq] at HMI
        rcases hf with ⟨hG, hf⟩ | ⟨hG, hf⟩
        · have HN : Hid (runF v L 0 = ((k : Int), S)) := by unfold Hid; rw [run_at hlt hno.out hf]; simp
          have HG := Lib.hid hG
          clear hq hf hno hm hG
          go_wp2_with (first
            | (go_at_call 14; (try rw [← HWB.out]); (with_reducible refine (HMI.out wb hbb).mono ?_); rintro e3 w3 ⟨A3, S3, c3, rfl, hS3, ho3, hb3⟩; obtain rfl : S = S3 := hS3; have HO3 := Lib.hid ho3; have HR3 := Lib.hid (OBs.reads ho3); obtain ⟨b0, b1, b2, b3, b4, b5⟩ := (HXC.out.at_ hb3).1; obtain ⟨b6, b7, b8⟩ := (HXC.out.at_ hb3).2; have hb3r := below_aft hbb hb3 hbb.size; clear ho3)
            | (go_at_call 24; (with_reducible refine (gh_impl _ A3 S c3 L[k].g0 L[k].g1 L[k].g2 w3 HR3.out).mono ?_); rw [HG.out]; rintro e4 w4 ⟨rfl, hb4⟩)
            | fail)
          go_ret3
          rw [HM.out, HN.out]
          have hbf := below_aft hb (below_aft hb3r hb4 hb3r.size) hb.size
          exact ⟨A3, S, c3, rfl, rfl, (HO3.out.later_ hb4).wide (fun b hq => ⟨by have := hq.1; have := hbwb.size; omega, by have := hq.2; have := hb4.size; omega⟩), hbf⟩
        · have HN := Lib.hid (hno.out.step hlt hf)
          have HG := Lib.hid hG
          clear hq hf hno hm hG
          go_wp2_with (first
            | (go_at_call 14; (try rw [← HWB.out]); (with_reducible refine (HMI.out wb hbb).mono ?_); rintro e3 w3 ⟨A3, S3, c3, rfl, hS3, ho3, hb3⟩; obtain rfl : S = S3 := hS3; have HO3 := Lib.hid ho3; have HR3 := Lib.hid (OBs.reads ho3); obtain ⟨b0, b1, b2, b3, b4, b5⟩ := (HXC.out.at_ hb3).1; obtain ⟨b6, b7, b8⟩ := (HXC.out.at_ hb3).2; have hb3r := below_aft hbb hb3 hbb.size; clear ho3)
            | (go_at_call 24; (with_reducible refine (gh_impl _ A3 S c3 L[k].g0 L[k].g1 L[k].g2 w3 HR3.out).mono ?_); rw [HG.out]; rintro e4 w4 ⟨rfl, hb4⟩)
            | fail)
          go_roundw
          case rel => exact ⟨k + 1, by omega, by go_num, HN, below_aft hbr (below_aft hb3r hb4 hb3r.size) hbr.size⟩
          case measure => simp [intOf]; omega
    · have HN : Hid (runF v L 0 = (-1, [])) := run_none (fun j hj hjk => hno.out j hj (by omega))
      clear hno
      go_wp2_with fail
      go_ret3
      exact RcI.no (by rw [HM.out, HN.out]) hb
theorem rc_impl (A C E : Option Addr) (l : List Da) (cap ccap ev e : Nat) (t : Ty) (L : List Cn) (v : Vl) (w : World) (hr : RDas w w.heap.size A l) (hc : RCs e w w.heap.size C L) (hv : RVs e w w.heap.size E v.kids) (hnv : wV v ≤ 16000000) :
    Calls Tryz.prog 22 #[.slice A l.length cap, .agg #[.int .i64 t.data, .int .i64 t.index], .slice C L.length ccap, .agg #[.int .i64 v.ctor, .int .i64 v.n, .slice E v.kids.length ev]] w (RcI e (rcO l t L v) w) := by
  cases h0 : csB l t L with
  | false => exact rc_i_1 A C E l cap ccap ev e t L v w hr hc hv hnv h0
  | true =>
    cases h1 : isV l t v with
    | false => exact rc_i_2 A C E l cap ccap ev e t L v w hr hc hv hnv h0 h1
    | true => exact rc_i_3 A C E l cap ccap ev e t L v w hr hc hv hnv h0 h1
end Go.Proofs.YthdnfnmglhifmaaGreat
/-
  Comparison of what variables stand for, where both sides read as the same. No statement is proved here.
-/
namespace Go.Proofs.YthdnfnmglhifmaaGreat
open Go.RowKit Go.Sort
set_option maxRecDepth 100000
set_option linter.unusedVariables false
set_option maxHeartbeats 1600000 in
theorem eqB_same (d : Nat) (A A' : Option Addr) (l : List Vl) (cap cap' : Nat) (x c n : Int) (w : World) (hr : RVs d w w.heap.size A l) (hr' : RVs d w w.heap.size A' l) :
    Calls Tryz.prog 106 #[.agg #[.int .i64 x, .int .i64 c, .int .i64 n, .slice A l.length cap], .agg #[.int .i64 x, .int .i64 c, .int .i64 n, .slice A' l.length cap']] w fun e w' => e = .returned (.bool true) ∧ Below w.heap.size w w' := by
  have Hr := Lib.hid hr
  have Hr' := Lib.hid hr'
  clear hr hr'
  go_enter Tryz.func106, Tryz.ntmps106
  go_wp2_with (go_at_call 45; refine (eqV_same d _ _ l _ _ _ _ _ (by exact Hr.out.keep (keep_two _ _) (by simp; omega)) (by exact Hr'.out.keep (keep_two _ _) (by simp; omega))).mono ?_; rintro e w1 ⟨rfl, hb⟩; obtain ⟨hc, hfz⟩ := bcell hb)
  go_ret
  exact ⟨rfl, below_two hb⟩
set_option maxHeartbeats 800000 in
theorem eqBs_same (d : Nat) (A A' : Option Addr) (l : List Bn) (cap cap' : Nat) (w : World) (hr : RBs d w w.heap.size A l) (hr' : RBs d w w.heap.size A' l) :
    Calls Tryz.prog 42 #[.slice A l.length cap, .slice A' l.length cap'] w fun e w' => e = .returned (.bool true) ∧ Below w.heap.size w w' := by
  have hn := hr.1
  unfold maxLen at hn
  have Hr := Lib.hid hr
  have Hr' := Lib.hid hr'
  clear hr hr'
  go_enter Tryz.func42, Tryz.ntmps42
  go_wp2_with fail
  go_loopw [5] (fun i wr => ∃ k : Nat, k ≤ l.length ∧ i = .int .i64 k ∧ Below w.heap.size w wr) (fun i _ => l.length - (intOf i).toNat)
  case atStart => exact ⟨0, by omega, rfl, Below.refl _ _⟩
  case round =>
    obtain ⟨k, hk, rfl, hb⟩ := hrel
    by_cases hlt : k < l.length
    · obtain ⟨b, off, rfl, hbB, B1, cp, c0, c1, c2, c3, hm⟩ := (Hr.out.below hb (Nat.le_refl _)).2 k hlt
      obtain ⟨b', off', rfl, hbB', B2, cp', c0', c1', c2', c3', hm'⟩ := (Hr'.out.below hb (Nat.le_refl _)).2 k hlt
      have d0 := cell_regrown c0
      have d1 := cell_regrown c1
      have d2 := cell_regrown c2
      have d3 := cell_regrown c3
      have d0' := cell_regrown c0'
      have d1' := cell_regrown c1'
      have d2' := cell_regrown c2'
      have d3' := cell_regrown c3'
      have Hm := Lib.hid hm
      have Hm' := Lib.hid hm'
      clear c0 c1 c2 c3 c0' c1' c2' c3' hm hm'
      have hi : (k : Int) < (l.length : Int) := by omega
      go_wp2_with fail
      refine wp_region_quiet_below (by kernel_rfl) (by kernel_rfl) ?_
      repeat (quiet_step (exact Calls.regrown_of (eqB_same d _ _ _ _ _ _ _ _ _ (Hm.out.keep (fun p hp => (below_regrown wr _ _).cell (Nat.lt_of_lt_of_le hp hb.size)) (Nat.le_trans hb.size (below_regrown wr _ _).size)) (Hm'.out.keep (fun p hp => (below_regrown wr _ _).cell (Nat.lt_of_lt_of_le hp hb.size)) (Nat.le_trans hb.size (below_regrown wr _ _).size)))))
      refine wpQuiet_nil ?_
      intro _ hw'
      obtain ⟨⟨dq, osq⟩, hw''⟩ := hw'
      subst hw''
      have hb2 := hb.trans ((below_regrown wr dq osq).mono hb.size)
      clear d0 d1 d2 d3 d0' d1' d2' d3'
      go_wp2_with fail
      go_roundw
      case rel => exact ⟨k + 1, by omega, by go_num, hb2⟩
      case measure => simp [intOf]; omega
    · go_wp2_with fail
      go_ret
      exact ⟨rfl, hb⟩
end Go.Proofs.YthdnfnmglhifmaaGreat
