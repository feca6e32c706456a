/-
  MatchPattern: the program's function. No statement is proved here.
-/
import Derived.Test.YthdnfnmglhifmaaGreatR24
import Derived.Test.YthdnfnmglhifmaaGreatR25
import Derived.Test.YthdnfnmglhifmaaGreatR20
import Derived.Test.YthdnfnmglhifmaaGreatR13
import Derived.Test.YthdnfnmglhifmaaGreatR26
namespace Go.Proofs.YthdnfnmglhifmaaGreat
open Go.RowKit Go.Sort Go.Deep
set_option maxRecDepth 100000
set_option linter.unusedVariables false
theorem mi_facts {l : List Da} {t : Ty} {p : Pt} {v : Vl} {L : List Bn} (h : pvT l t p = true) (hm : mtI 10 p v = some L) : ∃ L', mtS 10 p v = some L' ∧ (vsB L).Nodup ∧ (∀ b ∈ L, 0 ≤ b.var ∧ b.var ≤ 5) ∧ L.length ≤ 6 ∧ sortB L 6 = sortB L' 6 ∧ ∀ b ∈ sortB L 6, wV b.val ≤ wV v := by
  have hp : shP l 10 t p = true ∧ linP l 10 t p = true := by
    unfold pvT isP at h
    rw [Bool.and_eq_true, Bool.and_eq_true, Bool.and_eq_true] at h
    exact ⟨h.2.1, h.2.2.2⟩
  rcases mt_both 10 p v with ⟨h1, _⟩ | ⟨M, L', h1, h2, h3⟩
  · rw [hm] at h1; cases h1
  rw [hm] at h1; cases h1
  have hd := lin_vars l 10 t p v L' hp.1 hp.2 h2
  have hn : (vsB L).Nodup := (h3.map _).nodup_iff.2 hd.1
  have hr : ∀ b ∈ L, 0 ≤ b.var ∧ b.var ≤ 5 := fun b hb => (hd.2 b (h3.mem_iff.1 hb)).2
  refine ⟨L', h2, hn, hr, ?_, sort_perm h3 hn 6, fun b hb => ?_⟩
  · have := sub_len (vsB L) [0, 1, 2, 3, 4, 5] hn (fun x hx => by
      obtain ⟨b, hb, rfl⟩ := List.mem_map.1 hx
      have := hr b hb
      simp; omega)
    simpa [vsB] using this
  · refine mtS_wV 10 p v L' h2 b ?_
    rw [sort_perm h3 hn 6] at hb
    have : ∀ n, b ∈ sortB L' n → b ∈ L' := fun n => by
      induction n with
      | zero => intro h; cases h
      | succ n ih =>
        intro h
        rcases List.mem_append.1 h with h | h
        · exact ih h
        · exact (List.mem_filter.1 h).1
    exact this 6 hb
theorem mi_none {l : List Da} {t : Ty} {p : Pt} {v : Vl} (hm : mtI 10 p v = none) : mqO l t p v = none := by
  unfold mqO
  rcases mt_both 10 p v with ⟨_, h2⟩ | ⟨M, L', h1, _, _⟩
  · rw [h2]; split <;> rfl
  · rw [hm] at h1; cases h1
def MqI (d : Nat) (o : Option (List Bn)) (w : World) (E : Ending) (w' : World) : Prop := ∃ A S c, E = .returned (.tuple #[.slice A S.length c, .bool o.isSome]) ∧ o.getD [] = S ∧ OBs (d + 1) w' (Nw w w') A S ∧ Below w.heap.size w w'
theorem MqI.no {d : Nat} {o : Option (List Bn)} {w w' : World} (h : o = none) (hb : Below w.heap.size w w') : MqI d o w (.returned (.tuple #[.slice none 0 0, .bool false])) w' := by subst h; exact ⟨none, [], 0, rfl, rfl, OBs.nil _ _ _ _, hb⟩
set_option maxHeartbeats 4000000 in
theorem mi_1 (A D E : Option Addr) (l : List Da) (cap ep ev e : Nat) (t : Ty) (p : Pt) (v : Vl) (w : World) (hr : RDas w w.heap.size A l) (hp : RPs e w w.heap.size D p.kids) (hv : RVs e w w.heap.size E v.kids) (hnv : wV v ≤ 16000000) (h0 : pvT l t p = false) :
    Calls Tryz.prog 14 #[.slice A l.length cap, .agg #[.int .i64 t.data, .int .i64 t.index], .agg #[.int .i64 p.op, .int .i64 p.ctor, .int .i64 p.n, .int .i64 p.m, .int .i64 p.var, .slice D p.kids.length ep], .agg #[.int .i64 v.ctor, .int .i64 v.n, .slice E v.kids.length ev]] w (MqI e (mqO l t p v) w) := by
  have Hr := Lib.hid hr
  have HP := Lib.hid hp
  have HV := Lib.hid hv
  have HNV := Lib.hid hnv
  clear hr hp hv hnv
  generalize hwx : ((w.alloc (.cells #[.int .i64 t.data, .int .i64 t.index] 25)).alloc (.cells #[.int .i64 p.op, .int .i64 p.ctor, .int .i64 p.n, .int .i64 p.m, .int .i64 p.var, .slice D p.kids.length ep] 28)).alloc (.cells #[.int .i64 v.ctor, .int .i64 v.n, .slice E v.kids.length ev] 31) = wx
  have hbx : Below w.heap.size w wx := below_box3 hwx
  have hsx1 : w.heap.size + 3 ≤ wx.heap.size := by rw [← hwx]; simp
  have HXT : Hid (Bx wx w.heap.size t) := by rw [← hwx]; exact ⟨by simp [go_sem], by simp [go_sem]⟩
  have HXP : Hid (PBx wx (w.heap.size + 1) p (.slice D p.kids.length ep)) := by rw [← hwx]; exact ⟨by simp [go_sem], by simp [go_sem], by simp [go_sem], by simp [go_sem], by simp [go_sem], by simp [go_sem]⟩
  have HXV : Hid (VBx wx (w.heap.size + 2) v.ctor v.n (.slice E v.kids.length ev)) := by rw [← hwx]; exact ⟨by simp [go_sem], by simp [go_sem], by simp [go_sem]⟩
  have HW := Lib.hid hwx
  clear hwx
  obtain ⟨x0, x1⟩ := HXT.out
  obtain ⟨y0, y1, y2, y3, y4, y5⟩ := HXP.out
  obtain ⟨z0, z1, z2⟩ := HXV.out
  have HVT := Lib.hid h0
  have HM := Lib.hid (mqO_no1 (v := v) h0)
  clear h0
  have HPV : Hid (∀ W, Below wx.heap.size wx W → Calls Tryz.prog 19 #[.slice A l.length cap, .agg #[.int .i64 t.data, .int .i64 t.index], .agg #[.int .i64 p.op, .int .i64 p.ctor, .int .i64 p.n, .int .i64 p.m, .int .i64 p.var, .slice D p.kids.length ep]] W fun e w' => e = .returned (.bool false) ∧ Below W.heap.size W w') := fun W h => by
    have hq := pv_impl A D l cap ep e t p W ((Hr.out.at_ hbx).at_ h) ((HP.out.at_ hbx).at_ h)
    rw [HVT.out] at hq
    exact hq
  go_enter Tryz.func14, Tryz.ntmps14
  go_wp2_with (first
    | (go_at_call 19; (try rw [HW.out]); (with_reducible refine (HPV.out wx (Below.refl _ _)).mono ?_); rintro e1 w1 ⟨rfl, hb1⟩; have HX1 := Lib.hid (And.intro (HXT.out.at_ hb1) (And.intro (HXP.out.at_ hb1) (HXV.out.at_ hb1))); have hbw1 := below_aft hbx hb1 hbx.size; obtain ⟨x0', x1'⟩ := HX1.out.1; obtain ⟨y0', y1', y2', y3', y4', y5'⟩ := HX1.out.2.1; obtain ⟨z0', z1', z2'⟩ := HX1.out.2.2; clear x0 x1 y0 y1 y2 y3 y4 y5 z0 z1 z2)
    | fail)
  go_ret2
  exact MqI.no HM.out hbw1
set_option maxHeartbeats 4000000 in
theorem mi_2 (A D E : Option Addr) (l : List Da) (cap ep ev e : Nat) (t : Ty) (p : Pt) (v : Vl) (w : World) (hr : RDas w w.heap.size A l) (hp : RPs e w w.heap.size D p.kids) (hv : RVs e w w.heap.size E v.kids) (hnv : wV v ≤ 16000000) (h0 : pvT l t p = true) (h1 : isV l t v = false) :
    Calls Tryz.prog 14 #[.slice A l.length cap, .agg #[.int .i64 t.data, .int .i64 t.index], .agg #[.int .i64 p.op, .int .i64 p.ctor, .int .i64 p.n, .int .i64 p.m, .int .i64 p.var, .slice D p.kids.length ep], .agg #[.int .i64 v.ctor, .int .i64 v.n, .slice E v.kids.length ev]] w (MqI e (mqO l t p v) w) := by
  have Hr := Lib.hid hr
  have HP := Lib.hid hp
  have HV := Lib.hid hv
  have HNV := Lib.hid hnv
  clear hr hp hv hnv
  generalize hwx : ((w.alloc (.cells #[.int .i64 t.data, .int .i64 t.index] 25)).alloc (.cells #[.int .i64 p.op, .int .i64 p.ctor, .int .i64 p.n, .int .i64 p.m, .int .i64 p.var, .slice D p.kids.length ep] 28)).alloc (.cells #[.int .i64 v.ctor, .int .i64 v.n, .slice E v.kids.length ev] 31) = wx
  have hbx : Below w.heap.size w wx := below_box3 hwx
  have hsx1 : w.heap.size + 3 ≤ wx.heap.size := by rw [← hwx]; simp
  have HXT : Hid (Bx wx w.heap.size t) := by rw [← hwx]; exact ⟨by simp [go_sem], by simp [go_sem]⟩
  have HXP : Hid (PBx wx (w.heap.size + 1) p (.slice D p.kids.length ep)) := by rw [← hwx]; exact ⟨by simp [go_sem], by simp [go_sem], by simp [go_sem], by simp [go_sem], by simp [go_sem], by simp [go_sem]⟩
  have HXV : Hid (VBx wx (w.heap.size + 2) v.ctor v.n (.slice E v.kids.length ev)) := by rw [← hwx]; exact ⟨by simp [go_sem], by simp [go_sem], by simp [go_sem]⟩
  have HW := Lib.hid hwx
  clear hwx
  obtain ⟨x0, x1⟩ := HXT.out
  obtain ⟨y0, y1, y2, y3, y4, y5⟩ := HXP.out
  obtain ⟨z0, z1, z2⟩ := HXV.out
  have HVT := Lib.hid h0
  have HIS := Lib.hid h1
  have ht : TyOK l t := by
    by_cases ht : TyOK l t
    · exact ht
    · rw [pvT_no ht] at h0; cases h0
  have HK := Lib.hid ht
  clear ht
  have HM := Lib.hid (mqO_no2 (p := p) h1)
  clear h0 h1
  have HPV : Hid (∀ W, Below wx.heap.size wx W → Calls Tryz.prog 19 #[.slice A l.length cap, .agg #[.int .i64 t.data, .int .i64 t.index], .agg #[.int .i64 p.op, .int .i64 p.ctor, .int .i64 p.n, .int .i64 p.m, .int .i64 p.var, .slice D p.kids.length ep]] W fun e w' => e = .returned (.bool true) ∧ Below W.heap.size W w') := fun W h => by
    have hq := pv_impl A D l cap ep e t p W ((Hr.out.at_ hbx).at_ h) ((HP.out.at_ hbx).at_ h)
    rw [HVT.out] at hq
    exact hq
  have HIV : Hid (∀ W, Below wx.heap.size wx W → Calls Tryz.prog 18 #[.slice A l.length cap, .agg #[.int .i64 t.data, .int .i64 t.index], .agg #[.int .i64 v.ctor, .int .i64 v.n, .slice E v.kids.length ev]] W fun e w' => e = .returned (.bool false) ∧ Below W.heap.size W w') := fun W h => by
    have hq := vv_impl A E l cap ev e t v W ((Hr.out.at_ hbx).at_ h) ((HV.out.at_ hbx).at_ h) HNV.out
    rw [vvT_yes HK.out, HIS.out] at hq
    exact hq
  go_enter Tryz.func14, Tryz.ntmps14
  go_wp2_with (first
    | (go_at_call 19; (try rw [HW.out]); (with_reducible refine (HPV.out wx (Below.refl _ _)).mono ?_); rintro e1 w1 ⟨rfl, hb1⟩; have HX1 := Lib.hid (And.intro (HXT.out.at_ hb1) (And.intro (HXP.out.at_ hb1) (HXV.out.at_ hb1))); have hbw1 := below_aft hbx hb1 hbx.size; obtain ⟨x0', x1'⟩ := HX1.out.1; obtain ⟨y0', y1', y2', y3', y4', y5'⟩ := HX1.out.2.1; obtain ⟨z0', z1', z2'⟩ := HX1.out.2.2; clear x0 x1 y0 y1 y2 y3 y4 y5 z0 z1 z2)
    | (go_at_call 18; (with_reducible refine (HIV.out w1 hb1).mono ?_); rintro e2 w2 ⟨rfl, hb2⟩; have hb12 := below_aft hb1 hb2 hb1.size; have hbw2 := below_aft hbx hb12 hbx.size; have HX2 := Lib.hid (And.intro (HXT.out.at_ hb12) (And.intro (HXP.out.at_ hb12) (HXV.out.at_ hb12))); obtain ⟨a0, a1⟩ := HX2.out.1; obtain ⟨b0, b1, b2, b3, b4, b5⟩ := HX2.out.2.1; obtain ⟨d0, d1, d2⟩ := HX2.out.2.2; clear x0' x1' y0' y1' y2' y3' y4' y5' z0' z1' z2')
    | fail)
  go_ret2
  exact MqI.no HM.out hbw2
set_option maxHeartbeats 4000000 in
theorem mi_3 (A D E : Option Addr) (l : List Da) (cap ep ev e : Nat) (t : Ty) (p : Pt) (v : Vl) (w : World) (hr : RDas w w.heap.size A l) (hp : RPs e w w.heap.size D p.kids) (hv : RVs e w w.heap.size E v.kids) (hnv : wV v ≤ 16000000) (h0 : pvT l t p = true) (h1 : isV l t v = true) (ho0 : mtI 10 p v = none) :
    Calls Tryz.prog 14 #[.slice A l.length cap, .agg #[.int .i64 t.data, .int .i64 t.index], .agg #[.int .i64 p.op, .int .i64 p.ctor, .int .i64 p.n, .int .i64 p.m, .int .i64 p.var, .slice D p.kids.length ep], .agg #[.int .i64 v.ctor, .int .i64 v.n, .slice E v.kids.length ev]] w (MqI e (mqO l t p v) w) := by
  have Hr := Lib.hid hr
  have HP := Lib.hid hp
  have HV := Lib.hid hv
  have HNV := Lib.hid hnv
  clear hr hp hv hnv
  generalize hwx : ((w.alloc (.cells #[.int .i64 t.data, .int .i64 t.index] 25)).alloc (.cells #[.int .i64 p.op, .int .i64 p.ctor, .int .i64 p.n, .int .i64 p.m, .int .i64 p.var, .slice D p.kids.length ep] 28)).alloc (.cells #[.int .i64 v.ctor, .int .i64 v.n, .slice E v.kids.length ev] 31) = wx
  have hbx : Below w.heap.size w wx := below_box3 hwx
  have hsx1 : w.heap.size + 3 ≤ wx.heap.size := by rw [← hwx]; simp
  have HXT : Hid (Bx wx w.heap.size t) := by rw [← hwx]; exact ⟨by simp [go_sem], by simp [go_sem]⟩
  have HXP : Hid (PBx wx (w.heap.size + 1) p (.slice D p.kids.length ep)) := by rw [← hwx]; exact ⟨by simp [go_sem], by simp [go_sem], by simp [go_sem], by simp [go_sem], by simp [go_sem], by simp [go_sem]⟩
  have HXV : Hid (VBx wx (w.heap.size + 2) v.ctor v.n (.slice E v.kids.length ev)) := by rw [← hwx]; exact ⟨by simp [go_sem], by simp [go_sem], by simp [go_sem]⟩
  have HW := Lib.hid hwx
  clear hwx
  obtain ⟨x0, x1⟩ := HXT.out
  obtain ⟨y0, y1, y2, y3, y4, y5⟩ := HXP.out
  obtain ⟨z0, z1, z2⟩ := HXV.out
  have HVT := Lib.hid h0
  have HIS := Lib.hid h1
  have ht : TyOK l t := by
    by_cases ht : TyOK l t
    · exact ht
    · rw [pvT_no ht] at h0; cases h0
  have HK := Lib.hid ht
  clear ht
  obtain ⟨hsh, h60⟩ := pvT_sh h0
  obtain ⟨hfv, h61⟩ := isV_parts h1
  have HM := Lib.hid (mi_none (l := l) (t := t) ho0)
  clear h0 h1
  have HPV : Hid (∀ W, Below wx.heap.size wx W → Calls Tryz.prog 19 #[.slice A l.length cap, .agg #[.int .i64 t.data, .int .i64 t.index], .agg #[.int .i64 p.op, .int .i64 p.ctor, .int .i64 p.n, .int .i64 p.m, .int .i64 p.var, .slice D p.kids.length ep]] W fun e w' => e = .returned (.bool true) ∧ Below W.heap.size W w') := fun W h => by
    have hq := pv_impl A D l cap ep e t p W ((Hr.out.at_ hbx).at_ h) ((HP.out.at_ hbx).at_ h)
    rw [HVT.out] at hq
    exact hq
  have HIV : Hid (∀ W, Below wx.heap.size wx W → Calls Tryz.prog 18 #[.slice A l.length cap, .agg #[.int .i64 t.data, .int .i64 t.index], .agg #[.int .i64 v.ctor, .int .i64 v.n, .slice E v.kids.length ev]] W fun e w' => e = .returned (.bool true) ∧ Below W.heap.size W w') := fun W h => by
    have hq := vv_impl A E l cap ev e t v W ((Hr.out.at_ hbx).at_ h) ((HV.out.at_ hbx).at_ h) HNV.out
    rw [vvT_yes HK.out, HIS.out] at hq
    exact hq
  have HBF : Hid (∀ W, Below wx.heap.size wx W → Calls Tryz.prog 55 #[.agg #[.int .i64 p.op, .int .i64 p.ctor, .int .i64 p.n, .int .i64 p.m, .int .i64 p.var, .slice D p.kids.length ep], .agg #[.int .i64 v.ctor, .int .i64 v.n, .slice E v.kids.length ev]] W (BfQ e w.heap.size (1 + wP p) (mtI 10 p v) W)) := fun W h => bf_any l 10 10 e e w.heap.size D E ep ev t p v W hsh hfv (HP.out.keep (fun q hq => (below_aft hbx h hbx.size).cell (p := q) (by omega)) (Nat.le_refl _)) (HV.out.keep (fun q hq => (below_aft hbx h hbx.size).cell (p := q) (by omega)) (Nat.le_refl _)) (by have := (below_aft hbx h hbx.size).size; omega) (by omega)
  clear hsh hfv h60 h61
  rw [ho0] at HBF
  clear ho0
  go_enter Tryz.func14, Tryz.ntmps14
  go_wp2_with (first
    | (go_at_call 19; (try rw [HW.out]); (with_reducible refine (HPV.out wx (Below.refl _ _)).mono ?_); rintro e1 w1 ⟨rfl, hb1⟩; have HX1 := Lib.hid (And.intro (HXT.out.at_ hb1) (And.intro (HXP.out.at_ hb1) (HXV.out.at_ hb1))); have hbw1 := below_aft hbx hb1 hbx.size; obtain ⟨x0', x1'⟩ := HX1.out.1; obtain ⟨y0', y1', y2', y3', y4', y5'⟩ := HX1.out.2.1; obtain ⟨z0', z1', z2'⟩ := HX1.out.2.2; clear x0 x1 y0 y1 y2 y3 y4 y5 z0 z1 z2)
    | (go_at_call 18; (with_reducible refine (HIV.out w1 hb1).mono ?_); rintro e2 w2 ⟨rfl, hb2⟩; have hb12 := below_aft hb1 hb2 hb1.size; have hbw2 := below_aft hbx hb12 hbx.size; have HX2 := Lib.hid (And.intro (HXT.out.at_ hb12) (And.intro (HXP.out.at_ hb12) (HXV.out.at_ hb12))); obtain ⟨a0, a1⟩ := HX2.out.1; obtain ⟨b0, b1, b2, b3, b4, b5⟩ := HX2.out.2.1; obtain ⟨d0, d1, d2⟩ := HX2.out.2.2; clear x0' x1' y0' y1' y2' y3' y4' y5' z0' z1' z2')
    | (go_at_call 55; (with_reducible refine (HBF.out w2 hb12).mono ?_); intro e3 w3 hq3; obtain ⟨u3, L3, rfl, ho3, hn3, hb3⟩ := hq3.none_; have hbw3 := below_aft hbw2 hb3 hbw2.size; clear a0 a1 b0 b1 b2 b3 b4 b5 d0 d1 d2 ho3 hn3)
    | fail)
  go_ret2
  exact MqI.no HM.out hbw3
set_option maxHeartbeats 2000000 in
theorem ins_none (q : Option Addr) (c : Nat) (w : World) : Calls Tryz.prog 174 #[.slice q 0 c, .int .i64 0, .int .i64 0, .func (.func 57) #[] #[]] w fun e w' => e = .returned (.tuple #[]) ∧ w' = w := by
  go_enter Tryz.func174, Tryz.ntmps174
  go_wp2_with fail
  refine wp_loop_rounds 1 ?_
  rw [rounds_succ]
  go_wp2_with fail
  go_end0
  exact ⟨rfl, rfl⟩
set_option maxHeartbeats 2000000 in
theorem pdq_none (q : Option Addr) (c : Nat) (lim : Int) (w : World) : Calls Tryz.prog 118 #[.slice q 0 c, .int .i64 0, .int .i64 0, .int .i64 lim, .func (.func 57) #[] #[]] w fun e w' => e = .returned (.tuple #[]) ∧ w' = w := by
  go_enter Tryz.func118, Tryz.ntmps118
  go_wp2_with fail
  refine wp_loop_rounds 1 ?_
  rw [rounds_succ]
  go_wp2_with (go_at_call 174; refine (ins_none _ _ _).mono ?_; rintro e w' ⟨rfl, rfl⟩)
  (try simp only [Exit.inBlock, Exit.then]); refine bodyPost_ret (results_none rfl _ _ _) rfl ?_
  exact ⟨rfl, rfl⟩
theorem sort_none (q : Option Addr) (c : Nat) (w : World) : Calls Tryz.prog 56 #[.slice q 0 c, .func (.func 57) #[] #[]] w fun e w' => e = .returned (.tuple #[]) ∧ w' = w := by
  have hl := lenX 0
  go_enter Tryz.func56, Tryz.ntmps56
  go_wp2_with (first | (go_at_call 119; refine (hl _ (by omega)).mono ?_; rintro e w' ⟨⟨lim, rfl⟩, rfl⟩) | (go_at_call 118; refine (pdq_none _ _ _ _).mono ?_; rintro e w' ⟨rfl, rfl⟩))
  go_end0
  exact ⟨rfl, rfl⟩
set_option maxHeartbeats 4000000 in
theorem mi_4 (A D E : Option Addr) (l : List Da) (cap ep ev e : Nat) (t : Ty) (p : Pt) (v : Vl) (w : World) (hr : RDas w w.heap.size A l) (hp : RPs e w w.heap.size D p.kids) (hv : RVs e w w.heap.size E v.kids) (hnv : wV v ≤ 16000000) (h0 : pvT l t p = true) (h1 : isV l t v = true) (ho0 : mtI 10 p v = some []) :
    Calls Tryz.prog 14 #[.slice A l.length cap, .agg #[.int .i64 t.data, .int .i64 t.index], .agg #[.int .i64 p.op, .int .i64 p.ctor, .int .i64 p.n, .int .i64 p.m, .int .i64 p.var, .slice D p.kids.length ep], .agg #[.int .i64 v.ctor, .int .i64 v.n, .slice E v.kids.length ev]] w (MqI e (mqO l t p v) w) := by
  have Hr := Lib.hid hr
  have HP := Lib.hid hp
  have HV := Lib.hid hv
  have HNV := Lib.hid hnv
  clear hr hp hv hnv
  generalize hwx : ((w.alloc (.cells #[.int .i64 t.data, .int .i64 t.index] 25)).alloc (.cells #[.int .i64 p.op, .int .i64 p.ctor, .int .i64 p.n, .int .i64 p.m, .int .i64 p.var, .slice D p.kids.length ep] 28)).alloc (.cells #[.int .i64 v.ctor, .int .i64 v.n, .slice E v.kids.length ev] 31) = wx
  have hbx : Below w.heap.size w wx := below_box3 hwx
  have hsx1 : w.heap.size + 3 ≤ wx.heap.size := by rw [← hwx]; simp
  have HXT : Hid (Bx wx w.heap.size t) := by rw [← hwx]; exact ⟨by simp [go_sem], by simp [go_sem]⟩
  have HXP : Hid (PBx wx (w.heap.size + 1) p (.slice D p.kids.length ep)) := by rw [← hwx]; exact ⟨by simp [go_sem], by simp [go_sem], by simp [go_sem], by simp [go_sem], by simp [go_sem], by simp [go_sem]⟩
  have HXV : Hid (VBx wx (w.heap.size + 2) v.ctor v.n (.slice E v.kids.length ev)) := by rw [← hwx]; exact ⟨by simp [go_sem], by simp [go_sem], by simp [go_sem]⟩
  have HW := Lib.hid hwx
  clear hwx
  obtain ⟨x0, x1⟩ := HXT.out
  obtain ⟨y0, y1, y2, y3, y4, y5⟩ := HXP.out
  obtain ⟨z0, z1, z2⟩ := HXV.out
  have HVT := Lib.hid h0
  have HIS := Lib.hid h1
  have ht : TyOK l t := by
    by_cases ht : TyOK l t
    · exact ht
    · rw [pvT_no ht] at h0; cases h0
  have HK := Lib.hid ht
  clear ht
  obtain ⟨hsh, h60⟩ := pvT_sh h0
  obtain ⟨hfv, h61⟩ := isV_parts h1
  obtain ⟨L', hm2, hnd, hrg, hl6, hso, hwv⟩ := mi_facts h0 ho0
  have HM : Hid (mqO l t p v = some []) := by unfold Hid; rw [mqO_yes h0 h1, hm2]; show some (sortB L' 6) = _; rw [← hso]; rfl
  clear hm2 hnd hrg hso hwv
  clear h0 h1
  have HPV : Hid (∀ W, Below wx.heap.size wx W → Calls Tryz.prog 19 #[.slice A l.length cap, .agg #[.int .i64 t.data, .int .i64 t.index], .agg #[.int .i64 p.op, .int .i64 p.ctor, .int .i64 p.n, .int .i64 p.m, .int .i64 p.var, .slice D p.kids.length ep]] W fun e w' => e = .returned (.bool true) ∧ Below W.heap.size W w') := fun W h => by
    have hq := pv_impl A D l cap ep e t p W ((Hr.out.at_ hbx).at_ h) ((HP.out.at_ hbx).at_ h)
    rw [HVT.out] at hq
    exact hq
  have HIV : Hid (∀ W, Below wx.heap.size wx W → Calls Tryz.prog 18 #[.slice A l.length cap, .agg #[.int .i64 t.data, .int .i64 t.index], .agg #[.int .i64 v.ctor, .int .i64 v.n, .slice E v.kids.length ev]] W fun e w' => e = .returned (.bool true) ∧ Below W.heap.size W w') := fun W h => by
    have hq := vv_impl A E l cap ev e t v W ((Hr.out.at_ hbx).at_ h) ((HV.out.at_ hbx).at_ h) HNV.out
    rw [vvT_yes HK.out, HIS.out] at hq
    exact hq
  have HBF : Hid (∀ W, Below wx.heap.size wx W → Calls Tryz.prog 55 #[.agg #[.int .i64 p.op, .int .i64 p.ctor, .int .i64 p.n, .int .i64 p.m, .int .i64 p.var, .slice D p.kids.length ep], .agg #[.int .i64 v.ctor, .int .i64 v.n, .slice E v.kids.length ev]] W (BfQ e w.heap.size (1 + wP p) (mtI 10 p v) W)) := fun W h => bf_any l 10 10 e e w.heap.size D E ep ev t p v W hsh hfv (HP.out.keep (fun q hq => (below_aft hbx h hbx.size).cell (p := q) (by omega)) (Nat.le_refl _)) (HV.out.keep (fun q hq => (below_aft hbx h hbx.size).cell (p := q) (by omega)) (Nat.le_refl _)) (by have := (below_aft hbx h hbx.size).size; omega) (by omega)
  clear hsh hfv h60 h61
  rw [ho0] at HBF
  clear ho0
  have HNW : Hid (∀ W, Below wx.heap.size wx W → Calls Tryz.prog 55 #[.agg #[.int .i64 p.op, .int .i64 p.ctor, .int .i64 p.n, .int .i64 p.m, .int .i64 p.var, .slice D p.kids.length ep], .agg #[.int .i64 v.ctor, .int .i64 v.n, .slice E v.kids.length ev]] W (fun E w' => (∃ q c, E = .returned (.tuple #[.slice q 0 c, .bool true])) ∧ Below W.heap.size W w')) := fun W h => (HBF.out W h).mono (fun E w' hq => by
    obtain ⟨u, he, ho, hn, hb⟩ := hq.some_
    rcases ho.is with ⟨hu, _⟩ | ⟨g, c, xs, hu, _⟩
    · exact ⟨⟨none, 0, by rw [he, hu]⟩, hb⟩
    · exact ⟨⟨_, c, by rw [he, hu]; rfl⟩, hb⟩)
  go_enter Tryz.func14, Tryz.ntmps14
  go_wp2_with (first
    | (go_at_call 19; (try rw [HW.out]); (with_reducible refine (HPV.out wx (Below.refl _ _)).mono ?_); rintro e1 w1 ⟨rfl, hb1⟩; have HX1 := Lib.hid (And.intro (HXT.out.at_ hb1) (And.intro (HXP.out.at_ hb1) (HXV.out.at_ hb1))); have hbw1 := below_aft hbx hb1 hbx.size; obtain ⟨x0', x1'⟩ := HX1.out.1; obtain ⟨y0', y1', y2', y3', y4', y5'⟩ := HX1.out.2.1; obtain ⟨z0', z1', z2'⟩ := HX1.out.2.2; clear x0 x1 y0 y1 y2 y3 y4 y5 z0 z1 z2)
    | (go_at_call 18; (with_reducible refine (HIV.out w1 hb1).mono ?_); rintro e2 w2 ⟨rfl, hb2⟩; have hb12 := below_aft hb1 hb2 hb1.size; have hbw2 := below_aft hbx hb12 hbx.size; have HX2 := Lib.hid (And.intro (HXT.out.at_ hb12) (And.intro (HXP.out.at_ hb12) (HXV.out.at_ hb12))); obtain ⟨a0, a1⟩ := HX2.out.1; obtain ⟨b0, b1, b2, b3, b4, b5⟩ := HX2.out.2.1; obtain ⟨d0, d1, d2⟩ := HX2.out.2.2; clear x0' x1' y0' y1' y2' y3' y4' y5' z0' z1' z2')
    | (go_at_call 55; (with_reducible refine (HNW.out w2 hb12).mono ?_); rintro e3 w3 ⟨⟨q3, c3, rfl⟩, hb3⟩; have hbw3 := below_aft hbw2 hb3 hbw2.size; clear a0 a1 b0 b1 b2 b3 b4 b5 d0 d1 d2)
    | (go_at_call 56; refine (sort_none q3 c3 w3).mono ?_; rintro e4 w4 ⟨rfl, rfl⟩)
    | fail)
  go_loopw [37] (fun i wr => i = .int .i64 0 ∧ wr = w4) (fun i _ => 0)
  case atStart => exact ⟨rfl, rfl⟩
  case round =>
    obtain ⟨rfl, rfl⟩ := hrel
    go_wp2_with fail
    go_ret2
    exact ⟨q3, [], c3, by rw [HM.out]; rfl, by rw [HM.out]; rfl, OBs.nil _ _ _ _, hbw3⟩
set_option maxHeartbeats 4000000 in
theorem mi_5 (A D E : Option Addr) (l : List Da) (cap ep ev e : Nat) (t : Ty) (p : Pt) (v : Vl) (w : World) (hr : RDas w w.heap.size A l) (hp : RPs e w w.heap.size D p.kids) (hv : RVs e w w.heap.size E v.kids) (hnv : wV v ≤ 16000000) (L : List Bn) (hne : ¬ L = []) (h0 : pvT l t p = true) (h1 : isV l t v = true) (ho0 : mtI 10 p v = some L) :
    Calls Tryz.prog 14 #[.slice A l.length cap, .agg #[.int .i64 t.data, .int .i64 t.index], .agg #[.int .i64 p.op, .int .i64 p.ctor, .int .i64 p.n, .int .i64 p.m, .int .i64 p.var, .slice D p.kids.length ep], .agg #[.int .i64 v.ctor, .int .i64 v.n, .slice E v.kids.length ev]] w (MqI e (mqO l t p v) w) := by
  have Hr := Lib.hid hr
  have HP := Lib.hid hp
  have HV := Lib.hid hv
  have HNV := Lib.hid hnv
  clear hr hp hv hnv
  generalize hwx : ((w.alloc (.cells #[.int .i64 t.data, .int .i64 t.index] 25)).alloc (.cells #[.int .i64 p.op, .int .i64 p.ctor, .int .i64 p.n, .int .i64 p.m, .int .i64 p.var, .slice D p.kids.length ep] 28)).alloc (.cells #[.int .i64 v.ctor, .int .i64 v.n, .slice E v.kids.length ev] 31) = wx
  have hbx : Below w.heap.size w wx := below_box3 hwx
  have hsx1 : w.heap.size + 3 ≤ wx.heap.size := by rw [← hwx]; simp
  have HXT : Hid (Bx wx w.heap.size t) := by rw [← hwx]; exact ⟨by simp [go_sem], by simp [go_sem]⟩
  have HXP : Hid (PBx wx (w.heap.size + 1) p (.slice D p.kids.length ep)) := by rw [← hwx]; exact ⟨by simp [go_sem], by simp [go_sem], by simp [go_sem], by simp [go_sem], by simp [go_sem], by simp [go_sem]⟩
  have HXV : Hid (VBx wx (w.heap.size + 2) v.ctor v.n (.slice E v.kids.length ev)) := by rw [← hwx]; exact ⟨by simp [go_sem], by simp [go_sem], by simp [go_sem]⟩
  have HW := Lib.hid hwx
  clear hwx
  obtain ⟨x0, x1⟩ := HXT.out
  obtain ⟨y0, y1, y2, y3, y4, y5⟩ := HXP.out
  obtain ⟨z0, z1, z2⟩ := HXV.out
  have HVT := Lib.hid h0
  have HIS := Lib.hid h1
  have ht : TyOK l t := by
    by_cases ht : TyOK l t
    · exact ht
    · rw [pvT_no ht] at h0; cases h0
  have HK := Lib.hid ht
  clear ht
  obtain ⟨hsh, h60⟩ := pvT_sh h0
  obtain ⟨hfv, h61⟩ := isV_parts h1
  obtain ⟨L', hm2, hnd, hrg, hl6, hso, hwv⟩ := mi_facts h0 ho0
  have HM : Hid (mqO l t p v = some (sortB L 6)) := by unfold Hid; rw [mqO_yes h0 h1, hm2, hso]; rfl
  have HFA := Lib.hid (And.intro hnd hrg)
  have HWV : Hid (∀ b ∈ sortB L 6, wV b.val ≤ 1048576) := fun b hb => by have := hwv b hb; omega
  clear hm2 hnd hrg hso hwv
  have HNE := Lib.hid hne
  have HL0 : Hid (0 < L.length) := List.length_pos_iff.2 hne
  clear hne
  clear h0 h1
  have HPV : Hid (∀ W, Below wx.heap.size wx W → Calls Tryz.prog 19 #[.slice A l.length cap, .agg #[.int .i64 t.data, .int .i64 t.index], .agg #[.int .i64 p.op, .int .i64 p.ctor, .int .i64 p.n, .int .i64 p.m, .int .i64 p.var, .slice D p.kids.length ep]] W fun e w' => e = .returned (.bool true) ∧ Below W.heap.size W w') := fun W h => by
    have hq := pv_impl A D l cap ep e t p W ((Hr.out.at_ hbx).at_ h) ((HP.out.at_ hbx).at_ h)
    rw [HVT.out] at hq
    exact hq
  have HIV : Hid (∀ W, Below wx.heap.size wx W → Calls Tryz.prog 18 #[.slice A l.length cap, .agg #[.int .i64 t.data, .int .i64 t.index], .agg #[.int .i64 v.ctor, .int .i64 v.n, .slice E v.kids.length ev]] W fun e w' => e = .returned (.bool true) ∧ Below W.heap.size W w') := fun W h => by
    have hq := vv_impl A E l cap ev e t v W ((Hr.out.at_ hbx).at_ h) ((HV.out.at_ hbx).at_ h) HNV.out
    rw [vvT_yes HK.out, HIS.out] at hq
    exact hq
  have HBF : Hid (∀ W, Below wx.heap.size wx W → Calls Tryz.prog 55 #[.agg #[.int .i64 p.op, .int .i64 p.ctor, .int .i64 p.n, .int .i64 p.m, .int .i64 p.var, .slice D p.kids.length ep], .agg #[.int .i64 v.ctor, .int .i64 v.n, .slice E v.kids.length ev]] W (BfQ e w.heap.size (1 + wP p) (mtI 10 p v) W)) := fun W h => bf_any l 10 10 e e w.heap.size D E ep ev t p v W hsh hfv (HP.out.keep (fun q hq => (below_aft hbx h hbx.size).cell (p := q) (by omega)) (Nat.le_refl _)) (HV.out.keep (fun q hq => (below_aft hbx h hbx.size).cell (p := q) (by omega)) (Nat.le_refl _)) (by have := (below_aft hbx h hbx.size).size; omega) (by omega)
  clear hsh hfv h60 h61
  rw [ho0] at HBF
  clear ho0
  go_enter Tryz.func14, Tryz.ntmps14
  go_wp2_with (first
    | (go_at_call 19; (try rw [HW.out]); (with_reducible refine (HPV.out wx (Below.refl _ _)).mono ?_); rintro e1 w1 ⟨rfl, hb1⟩; have HX1 := Lib.hid (And.intro (HXT.out.at_ hb1) (And.intro (HXP.out.at_ hb1) (HXV.out.at_ hb1))); have hbw1 := below_aft hbx hb1 hbx.size; obtain ⟨x0', x1'⟩ := HX1.out.1; obtain ⟨y0', y1', y2', y3', y4', y5'⟩ := HX1.out.2.1; obtain ⟨z0', z1', z2'⟩ := HX1.out.2.2; clear x0 x1 y0 y1 y2 y3 y4 y5 z0 z1 z2)
    | (go_at_call 18; (with_reducible refine (HIV.out w1 hb1).mono ?_); rintro e2 w2 ⟨rfl, hb2⟩; have hb12 := below_aft hb1 hb2 hb1.size; have hbw2 := below_aft hbx hb12 hbx.size; have HX2 := Lib.hid (And.intro (HXT.out.at_ hb12) (And.intro (HXP.out.at_ hb12) (HXV.out.at_ hb12))); obtain ⟨a0, a1⟩ := HX2.out.1; obtain ⟨b0, b1, b2, b3, b4, b5⟩ := HX2.out.2.1; obtain ⟨d0, d1, d2⟩ := HX2.out.2.2; clear x0' x1' y0' y1' y2' y3' y4' y5' z0' z1' z2')
    | (go_at_call 55; (with_reducible refine (HBF.out w2 hb12).mono ?_); intro e3 w3 hq3; obtain ⟨u3, rfl, ho3, hn3, hb3⟩ := hq3.some_; have hbw3 := below_aft hbw2 hb3 hbw2.size; have hs23 := hb3.size; rcases ho3.is with ⟨_, hq0⟩ | ⟨g, cap3, xs3, rfl, hg3, hgl3, _⟩; (exact absurd hq0 HNE.out); have HO3 := Lib.hid ho3; clear ho3 hn3 hq3 a0 a1 b0 b1 b2 b3 b4 b5 d0 d1 d2)
    | (go_at_call 56; refine (sort_own HO3.out (by have := hbw2.size; omega) (by omega) (by have := HL0.out; omega) HFA.out.1 HFA.out.2).mono ?_; rintro e4 w4 ⟨rfl, ho4, hb4, hl4⟩; have HO4 := Lib.hid ho4; have HL4 := Lib.hid hl4; clear ho4 hl4)
    | fail)
  have hbw4 : Below w.heap.size w w4 := hbw3.trans (hb4.mono hbw2.size)
  generalize hS : sortB L 6 = S at HO4 HL4 HM HWV
  have hSl : L.length = S.length := HL4.out.symm
  rw [hSl] at HO4 ⊢
  have HC4 : Hid (CpRow e w4 w2.heap.size w.heap.size g cap3 S 0) := CpRow.zero HO4.out
  clear hS
  go_wp2_with fail
  go_loopw [37] (fun i wr => ∃ k : Nat, k ≤ S.length ∧ i = .int .i64 k ∧ Hid (CpRow e wr w2.heap.size w.heap.size g cap3 S k) ∧ Below w.heap.size w wr ∧ w4.heap.size ≤ wr.heap.size) (fun i _ => S.length - (intOf i).toNat)
  case atStart => exact ⟨0, by omega, rfl, HC4.out, hbw4, Nat.le_refl _⟩
  case round =>
    obtain ⟨k, hk, rfl, HC, hb, hs⟩ := hrel
    have hbs := hb.size
    by_cases hlt : k < S.length
    · have hkI : (k : Int) < (S.length : Int) := by omega
      obtain ⟨A', c', c1, c2, c3, hvk⟩ := HC.out.at_ hlt
      obtain ⟨cur, hlg, hgl, hgc⟩ := HC.out.block
      have HWk : Hid (wV S[k].val ≤ 1048576) := HWV.out _ (List.getElem_mem hlt)
      have HVk := Lib.hid (hvk.keep (fun _ _ => rfl) hbs)
      have HGC := Lib.hid hgc
      have HCP : Hid (∀ W : World, RVs e W W.heap.size A' S[k].val.kids → Calls Tryz.prog 59 #[.agg #[.int .i64 S[k].val.ctor, .int .i64 S[k].val.n, .slice A' S[k].val.kids.length c']] W (CpQ e S[k].val W)) := fun W h => copyV_any e A' c' S[k].val W h HWk.out
      clear hvk hgc
      go_wp2_with (first
        | (go_at_call 59; (with_reducible refine (HCP.out _ HVk.out).mono ?_); rintro e5 w5 ⟨A5, c5, rfl, hov, hb5⟩; have HOV := Lib.hid hov; have HB5 := Lib.hid hb5;
            have hg5 : w5.heap[g]? = some (.cells cur 41 (0, 0)) := (hb5.block g hgl).trans HGC.out;
            have d1 := (hb5.cell (p := ⟨g, k * 4 + 1, none⟩) (Go.block_lt_of_cell c1)).trans c1;
            have d2 := (hb5.cell (p := ⟨g, k * 4 + 2, none⟩) (Go.block_lt_of_cell c2)).trans c2;
            have d3 := (hb5.cell (p := ⟨g, k * 4 + 3, none⟩) (Go.block_lt_of_cell c3)).trans c3;
            have f1 := frozen_of_row w5 g (k * 4 + 1) _ 41 hg5;
            have f2 := frozen_of_row w5 g (k * 4 + 2) _ 41 hg5;
            have f3 := frozen_of_row w5 g (k * 4 + 3) _ 41 hg5;
            clear c1 c2 c3 hov hb5 hg5)
        | fail)
      have HC5 := Lib.hid (HC.out.step (c2 := c5) hlt (by have := hbw2.size; omega) HB5.out HOV.out)
      have h25 := HB5.out.size
      have hbn : Below w.heap.size w (((w5.setCell ⟨g, k * 4 + 1, none⟩ (.int .i64 S[k].val.ctor)).setCell ⟨g, k * 4 + 2, none⟩ (.int .i64 S[k].val.n)).setCell ⟨g, k * 4 + 3, none⟩ (.slice A5 S[k].val.kids.length c5)) := by
        have hlw : w.heap.size ≤ g := by have := hbw2.size; omega
        exact (((hb.trans (HB5.out.mono hbs)).setCell hlw _).setCell hlw _).setCell hlw _
      clear d1 d2 d3 f1 f2 f3
      go_roundw
      case rel => exact ⟨k + 1, by omega, by go_num, HC5.out, hbn, by simp [World.setCell]; omega⟩
      case measure => simp [intOf]; omega
    · have he : k = S.length := by omega
      have hkI : (S.length : Int) ≤ (k : Int) := by omega
      have HCE : Hid (CpRow e wr w2.heap.size w.heap.size g cap3 S S.length) := by unfold Hid; have h := HC.out; rw [he] at h; exact h
      have HSL : Hid (S.length ≤ 1048576) := by unfold Hid; omega
      clear he
      go_wp2_with fail
      go_ret2
      exact ⟨_, S, cap3, by rw [HM.out]; rfl, by rw [HM.out]; rfl, (HCE.out.all HSL.out).wide (fun b hb => ⟨by have := hb.1; have := hbw2.size; omega, hb.2⟩), hb⟩
theorem mi_any (A D E : Option Addr) (l : List Da) (cap ep ev e : Nat) (t : Ty) (p : Pt) (v : Vl) (w : World) (hr : RDas w w.heap.size A l) (hp : RPs e w w.heap.size D p.kids) (hv : RVs e w w.heap.size E v.kids) (hnv : wV v ≤ 16000000) :
    Calls Tryz.prog 14 #[.slice A l.length cap, .agg #[.int .i64 t.data, .int .i64 t.index], .agg #[.int .i64 p.op, .int .i64 p.ctor, .int .i64 p.n, .int .i64 p.m, .int .i64 p.var, .slice D p.kids.length ep], .agg #[.int .i64 v.ctor, .int .i64 v.n, .slice E v.kids.length ev]] w (MqI e (mqO l t p v) w) := by
  cases h0 : pvT l t p with
  | false => exact mi_1 A D E l cap ep ev e t p v w hr hp hv hnv h0
  | true =>
    cases h1 : isV l t v with
    | false => exact mi_2 A D E l cap ep ev e t p v w hr hp hv hnv h0 h1
    | true =>
      cases h2 : mtI 10 p v with
      | none => exact mi_3 A D E l cap ep ev e t p v w hr hp hv hnv h0 h1 h2
      | some L =>
        cases L with
        | nil => exact mi_4 A D E l cap ep ev e t p v w hr hp hv hnv h0 h1 h2
        | cons b L => exact mi_5 A D E l cap ep ev e t p v w hr hp hv hnv (b :: L) (by simp) h0 h1 h2
end Go.Proofs.YthdnfnmglhifmaaGreat
