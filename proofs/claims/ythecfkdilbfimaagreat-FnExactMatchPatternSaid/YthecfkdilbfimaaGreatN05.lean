/-
  MatchPattern: the document's function. No statement is proved here.
-/
import Derived.Test.YthecfkdilbfimaaGreatN04
import Derived.Test.YthecfkdilbfimaaGreatG18
import Derived.Test.YthecfkdilbfimaaGreatG17
import Derived.Test.YthecfkdilbfimaaGreatSSfLay
namespace Go.Proofs.YthecfkdilbfimaaGreat
open Go.RowKit Go.Sort Go.Deep
set_option maxRecDepth 100000
set_option linter.unusedVariables false

noncomputable def mqO (l : List Da) (t : Ty) (p : Pt) (v : Vl) : Option (List Bn) := if (pvT l t p && isV l t v) = true then (mtS 10 p v).map (sortB · 6) else none
theorem mqO_no1 {l : List Da} {t : Ty} {p : Pt} {v : Vl} (h : pvT l t p = false) : mqO l t p v = none := by unfold mqO; rw [h]; rfl
theorem mqO_no2 {l : List Da} {t : Ty} {p : Pt} {v : Vl} (h : isV l t v = false) : mqO l t p v = none := by unfold mqO; rw [h, Bool.and_false]; rfl
theorem mqO_yes {l : List Da} {t : Ty} {p : Pt} {v : Vl} (h : pvT l t p = true) (h' : isV l t v = true) : mqO l t p v = (mtS 10 p v).map (sortB · 6) := by unfold mqO; rw [h, h']; rfl
theorem isV_parts {l : List Da} {t : Ty} {v : Vl} (h : isV l t v = true) : fitV l 10 t v = true ∧ 1 + wV v ≤ 60 := by
  unfold isV at h
  rw [Bool.and_eq_true] at h
  exact ⟨h.1, of_decide_eq_true h.2⟩
theorem add_at (g n : Nat) : (⟨g, 0, none⟩ : Addr).add n = ⟨g, 0 + n, none⟩ := by
  unfold Addr.add
  by_cases e : n = 0
  · rw [if_pos e, e]
  · rw [if_neg e]
theorem OBr.reads {d : Nat} {w : World} {lo B : Nat} {u : Value} {L : List Bn} (h : OBr d w lo B u L) (hB : B ≤ w.heap.size) (hL : L.length ≤ maxLen) : ∃ A cap, u = .slice A L.length cap ∧ RBs d w w.heap.size A L := by
  rcases h.is with ⟨rfl, rfl⟩ | ⟨g, cap, xs, rfl, _, hg, hxl, hx, hc⟩
  · exact ⟨none, 0, rfl, RBs.nil⟩
  · refine ⟨_, cap, rfl, hL, fun k hk => ?_⟩
    obtain ⟨A', c', e0, e1, e2, e3, hv⟩ := hx k hk
    have c0 := hc _ _ e0
    have c1 := hc _ _ e1
    have c2 := hc _ _ e2
    have c3 := hc _ _ e3
    rw [add_at] at c0 c1 c2 c3
    exact ⟨g, 0, rfl, hg, A', c', c0, c1, c2, c3, hv.keep (fun _ _ => rfl) hB⟩
theorem wV_def : wV (default : Vl) = 0 := rfl
theorem wV_getD (v : Vl) (k : Nat) : wV (v.kids.getD k default) ≤ wV v := by
  by_cases h : k < v.kids.length
  · rw [getD_vl h]; exact wV_kid v k h
  · rw [List.getD_eq_getElem?_getD, List.getElem?_eq_none (by omega)]; exact Nat.zero_le _
theorem catO_mem {f : Nat → Option (List Bn)} {P : Bn → Prop} : ∀ {k : Nat} {L : List Bn}, (∀ i L', i < k → f i = some L' → ∀ b ∈ L', P b) → catO f k = some L → ∀ b ∈ L, P b
  | 0, L, _, h, b, hb => by cases h; cases hb
  | k + 1, L, hf, h, b, hb => by
    cases hc : catO f k with
    | none => rw [catO_up 1 hc] at h; cases h
    | some M =>
      cases hk : f k with
      | none => rw [catO_none (Nat.lt_succ_self k) hk] at h; cases h
      | some M' =>
        rw [catO_some hc hk] at h
        cases h
        rcases List.mem_append.1 hb with h1 | h1
        · exact catO_mem (fun i L' hi h => hf i L' (by omega) h) hc b h1
        · exact hf k M' (by omega) hk b h1
theorem mtS_wV : ∀ (d : Nat) (p : Pt) (v : Vl) (L : List Bn), mtS d p v = some L → ∀ b ∈ L, wV b.val ≤ wV v
  | 0, _, _, _, h => by cases h
  | d + 1, p, v, L, h => by
    rw [mtS] at h
    by_cases h2 : p.op = 2
    · rw [if_pos h2] at h; cases h; intro b hb; simp at hb; subst hb; exact Nat.le_refl _
    rw [if_neg h2] at h
    by_cases h3 : p.op = 3
    · rw [if_pos h3] at h
      by_cases hc : p.n ≤ v.n ∧ v.n ≤ p.m
      · rw [if_pos hc] at h; cases h; intro b hb; cases hb
      · rw [if_neg hc] at h; cases h
    rw [if_neg h3] at h
    by_cases h4 : p.op = 4
    · rw [if_pos h4] at h
      by_cases hc : p.ctor = v.ctor
      · rw [if_pos hc] at h
        exact catO_mem (fun i L' _ hi b hb => Nat.le_trans (mtS_wV d _ _ L' hi b hb) (wV_getD v i)) h
      · rw [if_neg hc] at h; cases h
    rw [if_neg h4] at h
    by_cases h5 : p.op = 5
    · rw [if_pos h5] at h
      cases hq : mtS d (p.kids.getD 0 default) v with
      | none => rw [hq] at h; exact mtS_wV d _ v L h
      | some L0 => rw [hq] at h; cases h; exact mtS_wV d _ v _ hq
    rw [if_neg h5] at h
    by_cases h6 : p.op = 6
    · rw [if_pos h6] at h
      obtain ⟨L2, hq, rfl⟩ := Option.map_eq_some_iff.1 h
      intro b hb
      rcases List.mem_cons.1 hb with h1 | h1
      · rw [h1]; exact Nat.le_refl _
      · exact mtS_wV d _ v _ hq b h1
    rw [if_neg h6] at h
    cases h; intro b hb; cases hb
def MqT (d : Nat) (o : Option (List Bn)) (w : World) (E : Ending) (w' : World) : Prop := ∃ A S c, E = .returned (.tuple #[.slice A S.length c, .bool o.isSome]) ∧ o.getD [] = S ∧ RBs d w' w'.heap.size A S ∧ Below w.heap.size w w'
theorem MqT.no {d : Nat} {o : Option (List Bn)} {w w' : World} {A : Option Addr} {c : Nat} (h : o = none) (hb : Below w.heap.size w w') : MqT d o w (.returned (.tuple #[.slice A 0 c, .bool false])) w' := by subst h; exact ⟨A, [], c, rfl, rfl, RBs.nil, hb⟩
set_option maxHeartbeats 4000000 in
theorem mq_s1 (A D E : Option Addr) (l : List Da) (cap ep ev e : Nat) (t : Ty) (p : Pt) (v : Vl) (w : World) (hr : RDas w w.heap.size A l) (hp : RPs e w w.heap.size D p.kids) (hv : RVs e w w.heap.size E v.kids) (hn : wP p ≤ 1048576) (hnv : wV v ≤ 16000000) (h0 : pvT l t p = false) :
    Calls Tryz.prog 33 #[.slice A l.length cap, .agg #[.int .i64 t.data, .int .i64 t.index], .agg #[.int .i64 p.op, .int .i64 p.ctor, .int .i64 p.n, .int .i64 p.m, .int .i64 p.var, .slice D p.kids.length ep], .agg #[.int .i64 v.ctor, .int .i64 v.n, .slice E v.kids.length ev]] w (MqT e (mqO l t p v) w) := by
  have Hr := Lib.hid hr
  have HP := Lib.hid hp
  have HV := Lib.hid hv
  have HN := Lib.hid hn
  have HNV := Lib.hid hnv
  clear hr hp hv hn hnv
  generalize hwx : ((w.alloc (.cells #[.int .i64 t.data, .int .i64 t.index] 31)).alloc (.cells #[.int .i64 p.op, .int .i64 p.ctor, .int .i64 p.n, .int .i64 p.m, .int .i64 p.var, .slice D p.kids.length ep] 45)).alloc (.cells #[.int .i64 v.ctor, .int .i64 v.n, .slice E v.kids.length ev] 51) = wx
  have hbx : Below w.heap.size w wx := below_box3 hwx
  have hsx1 : w.heap.size + 3 ≤ wx.heap.size := by rw [← hwx]; simp
  have HXT : Hid (Bx wx w.heap.size t) := by rw [← hwx]; exact ⟨by simp [go_sem], by simp [go_sem]⟩
  have HXP : Hid (PBx wx (w.heap.size + 1) p (.slice D p.kids.length ep)) := by rw [← hwx]; exact ⟨by simp [go_sem], by simp [go_sem], by simp [go_sem], by simp [go_sem], by simp [go_sem], by simp [go_sem]⟩
  have HXV : Hid (VBx wx (w.heap.size + 2) v.ctor v.n (.slice E v.kids.length ev)) := by rw [← hwx]; exact ⟨by simp [go_sem], by simp [go_sem], by simp [go_sem]⟩
  have HW := Lib.hid hwx
  clear hwx
  obtain ⟨x0, x1⟩ := HXT.out
  obtain ⟨y0, y1, y2, y3, y4, y5⟩ := HXP.out
  obtain ⟨z0, z1, z2⟩ := HXV.out
  have HVT := Lib.hid h0
  have HM := Lib.hid (mqO_no1 (v := v) h0)
  clear h0
  have HPV : Hid (∀ W, Below wx.heap.size wx W → Calls Tryz.prog 64 #[.slice A l.length cap, .agg #[.int .i64 t.data, .int .i64 t.index], .agg #[.int .i64 p.op, .int .i64 p.ctor, .int .i64 p.n, .int .i64 p.m, .int .i64 p.var, .slice D p.kids.length ep]] W fun e w' => e = .returned (.bool false) ∧ Below W.heap.size W w') := fun W h => by
    have hq := pv_spec A D l cap ep e t p W ((Hr.out.at_ hbx).at_ h) ((HP.out.at_ hbx).at_ h) HN.out
    rw [HVT.out] at hq
    exact hq
  go_enter Tryz.func33, Tryz.ntmps33
  go_wp2_with (first
    | (go_at_call 64; (try rw [HW.out]); (with_reducible refine (HPV.out wx (Below.refl _ _)).mono ?_); rintro e1 w1 ⟨rfl, hb1⟩; have HX1 := Lib.hid (And.intro (HXT.out.at_ hb1) (And.intro (HXP.out.at_ hb1) (HXV.out.at_ hb1))); have hbw1 := below_aft hbx hb1 hbx.size; obtain ⟨x0', x1'⟩ := HX1.out.1; obtain ⟨y0', y1', y2', y3', y4', y5'⟩ := HX1.out.2.1; obtain ⟨z0', z1', z2'⟩ := HX1.out.2.2; clear x0 x1 y0 y1 y2 y3 y4 y5 z0 z1 z2)
    | fail)
  go_ret2
  exact MqT.no HM.out (hbw1.alloc hbw1.size _)
set_option maxHeartbeats 4000000 in
theorem mq_s2 (A D E : Option Addr) (l : List Da) (cap ep ev e : Nat) (t : Ty) (p : Pt) (v : Vl) (w : World) (hr : RDas w w.heap.size A l) (hp : RPs e w w.heap.size D p.kids) (hv : RVs e w w.heap.size E v.kids) (hn : wP p ≤ 1048576) (hnv : wV v ≤ 16000000) (h0 : pvT l t p = true) (h1 : isV l t v = false) :
    Calls Tryz.prog 33 #[.slice A l.length cap, .agg #[.int .i64 t.data, .int .i64 t.index], .agg #[.int .i64 p.op, .int .i64 p.ctor, .int .i64 p.n, .int .i64 p.m, .int .i64 p.var, .slice D p.kids.length ep], .agg #[.int .i64 v.ctor, .int .i64 v.n, .slice E v.kids.length ev]] w (MqT e (mqO l t p v) w) := by
  have Hr := Lib.hid hr
  have HP := Lib.hid hp
  have HV := Lib.hid hv
  have HN := Lib.hid hn
  have HNV := Lib.hid hnv
  clear hr hp hv hn hnv
  generalize hwx : ((w.alloc (.cells #[.int .i64 t.data, .int .i64 t.index] 31)).alloc (.cells #[.int .i64 p.op, .int .i64 p.ctor, .int .i64 p.n, .int .i64 p.m, .int .i64 p.var, .slice D p.kids.length ep] 45)).alloc (.cells #[.int .i64 v.ctor, .int .i64 v.n, .slice E v.kids.length ev] 51) = wx
  have hbx : Below w.heap.size w wx := below_box3 hwx
  have hsx1 : w.heap.size + 3 ≤ wx.heap.size := by rw [← hwx]; simp
  have HXT : Hid (Bx wx w.heap.size t) := by rw [← hwx]; exact ⟨by simp [go_sem], by simp [go_sem]⟩
  have HXP : Hid (PBx wx (w.heap.size + 1) p (.slice D p.kids.length ep)) := by rw [← hwx]; exact ⟨by simp [go_sem], by simp [go_sem], by simp [go_sem], by simp [go_sem], by simp [go_sem], by simp [go_sem]⟩
  have HXV : Hid (VBx wx (w.heap.size + 2) v.ctor v.n (.slice E v.kids.length ev)) := by rw [← hwx]; exact ⟨by simp [go_sem], by simp [go_sem], by simp [go_sem]⟩
  have HW := Lib.hid hwx
  clear hwx
  obtain ⟨x0, x1⟩ := HXT.out
  obtain ⟨y0, y1, y2, y3, y4, y5⟩ := HXP.out
  obtain ⟨z0, z1, z2⟩ := HXV.out
  have HVT := Lib.hid h0
  have HIS := Lib.hid h1
  have ht : TyOK l t := by
    by_cases ht : TyOK l t
    · exact ht
    · rw [pvT_no ht] at h0; cases h0
  have HK := Lib.hid ht
  clear ht
  have HM := Lib.hid (mqO_no2 (p := p) h1)
  clear h0 h1
  have HPV : Hid (∀ W, Below wx.heap.size wx W → Calls Tryz.prog 64 #[.slice A l.length cap, .agg #[.int .i64 t.data, .int .i64 t.index], .agg #[.int .i64 p.op, .int .i64 p.ctor, .int .i64 p.n, .int .i64 p.m, .int .i64 p.var, .slice D p.kids.length ep]] W fun e w' => e = .returned (.bool true) ∧ Below W.heap.size W w') := fun W h => by
    have hq := pv_spec A D l cap ep e t p W ((Hr.out.at_ hbx).at_ h) ((HP.out.at_ hbx).at_ h) HN.out
    rw [HVT.out] at hq
    exact hq
  have HIV : Hid (∀ W, Below wx.heap.size wx W → Calls Tryz.prog 73 #[.slice A l.length cap, .agg #[.int .i64 t.data, .int .i64 t.index], .agg #[.int .i64 v.ctor, .int .i64 v.n, .slice E v.kids.length ev]] W fun e w' => e = .returned (.bool false) ∧ Below W.heap.size W w') := fun W h => by
    have hq := isV_any A E l cap ev e t v W ((Hr.out.at_ hbx).at_ h) HK.out ((HV.out.at_ hbx).at_ h) HNV.out
    rw [HIS.out] at hq
    exact hq
  go_enter Tryz.func33, Tryz.ntmps33
  go_wp2_with (first
    | (go_at_call 64; (try rw [HW.out]); (with_reducible refine (HPV.out wx (Below.refl _ _)).mono ?_); rintro e1 w1 ⟨rfl, hb1⟩; have HX1 := Lib.hid (And.intro (HXT.out.at_ hb1) (And.intro (HXP.out.at_ hb1) (HXV.out.at_ hb1))); have hbw1 := below_aft hbx hb1 hbx.size; obtain ⟨x0', x1'⟩ := HX1.out.1; obtain ⟨y0', y1', y2', y3', y4', y5'⟩ := HX1.out.2.1; obtain ⟨z0', z1', z2'⟩ := HX1.out.2.2; clear x0 x1 y0 y1 y2 y3 y4 y5 z0 z1 z2)
    | (go_at_call 73; (with_reducible refine (HIV.out w1 hb1).mono ?_); rintro e2 w2 ⟨rfl, hb2⟩; have hb12 := below_aft hb1 hb2 hb1.size; have hbw2 := below_aft hbx hb12 hbx.size; have HX2 := Lib.hid (And.intro (HXT.out.at_ hb12) (And.intro (HXP.out.at_ hb12) (HXV.out.at_ hb12))); obtain ⟨a0, a1⟩ := HX2.out.1; obtain ⟨b0, b1, b2, b3, b4, b5⟩ := HX2.out.2.1; obtain ⟨d0, d1, d2⟩ := HX2.out.2.2; clear x0' x1' y0' y1' y2' y3' y4' y5' z0' z1' z2')
    | fail)
  go_ret2
  exact MqT.no HM.out (hbw2.alloc hbw2.size _)
set_option maxHeartbeats 4000000 in
theorem mq_s3 (A D E : Option Addr) (l : List Da) (cap ep ev e : Nat) (t : Ty) (p : Pt) (v : Vl) (w : World) (hr : RDas w w.heap.size A l) (hp : RPs e w w.heap.size D p.kids) (hv : RVs e w w.heap.size E v.kids) (hn : wP p ≤ 1048576) (hnv : wV v ≤ 16000000) (h0 : pvT l t p = true) (h1 : isV l t v = true) (ho0 : mtS 10 p v = none) :
    Calls Tryz.prog 33 #[.slice A l.length cap, .agg #[.int .i64 t.data, .int .i64 t.index], .agg #[.int .i64 p.op, .int .i64 p.ctor, .int .i64 p.n, .int .i64 p.m, .int .i64 p.var, .slice D p.kids.length ep], .agg #[.int .i64 v.ctor, .int .i64 v.n, .slice E v.kids.length ev]] w (MqT e (mqO l t p v) w) := by
  have Hr := Lib.hid hr
  have HP := Lib.hid hp
  have HV := Lib.hid hv
  have HN := Lib.hid hn
  have HNV := Lib.hid hnv
  clear hr hp hv hn hnv
  generalize hwx : ((w.alloc (.cells #[.int .i64 t.data, .int .i64 t.index] 31)).alloc (.cells #[.int .i64 p.op, .int .i64 p.ctor, .int .i64 p.n, .int .i64 p.m, .int .i64 p.var, .slice D p.kids.length ep] 45)).alloc (.cells #[.int .i64 v.ctor, .int .i64 v.n, .slice E v.kids.length ev] 51) = wx
  have hbx : Below w.heap.size w wx := below_box3 hwx
  have hsx1 : w.heap.size + 3 ≤ wx.heap.size := by rw [← hwx]; simp
  have HXT : Hid (Bx wx w.heap.size t) := by rw [← hwx]; exact ⟨by simp [go_sem], by simp [go_sem]⟩
  have HXP : Hid (PBx wx (w.heap.size + 1) p (.slice D p.kids.length ep)) := by rw [← hwx]; exact ⟨by simp [go_sem], by simp [go_sem], by simp [go_sem], by simp [go_sem], by simp [go_sem], by simp [go_sem]⟩
  have HXV : Hid (VBx wx (w.heap.size + 2) v.ctor v.n (.slice E v.kids.length ev)) := by rw [← hwx]; exact ⟨by simp [go_sem], by simp [go_sem], by simp [go_sem]⟩
  have HW := Lib.hid hwx
  clear hwx
  obtain ⟨x0, x1⟩ := HXT.out
  obtain ⟨y0, y1, y2, y3, y4, y5⟩ := HXP.out
  obtain ⟨z0, z1, z2⟩ := HXV.out
  have HVT := Lib.hid h0
  have HIS := Lib.hid h1
  have ht : TyOK l t := by
    by_cases ht : TyOK l t
    · exact ht
    · rw [pvT_no ht] at h0; cases h0
  have HK := Lib.hid ht
  clear ht
  have HM := Lib.hid (mqO_yes h0 h1)
  obtain ⟨hsh, h60⟩ := pvT_sh h0
  obtain ⟨hfv, h61⟩ := isV_parts h1
  clear h0 h1
  have HPV : Hid (∀ W, Below wx.heap.size wx W → Calls Tryz.prog 64 #[.slice A l.length cap, .agg #[.int .i64 t.data, .int .i64 t.index], .agg #[.int .i64 p.op, .int .i64 p.ctor, .int .i64 p.n, .int .i64 p.m, .int .i64 p.var, .slice D p.kids.length ep]] W fun e w' => e = .returned (.bool true) ∧ Below W.heap.size W w') := fun W h => by
    have hq := pv_spec A D l cap ep e t p W ((Hr.out.at_ hbx).at_ h) ((HP.out.at_ hbx).at_ h) HN.out
    rw [HVT.out] at hq
    exact hq
  have HIV : Hid (∀ W, Below wx.heap.size wx W → Calls Tryz.prog 73 #[.slice A l.length cap, .agg #[.int .i64 t.data, .int .i64 t.index], .agg #[.int .i64 v.ctor, .int .i64 v.n, .slice E v.kids.length ev]] W fun e w' => e = .returned (.bool true) ∧ Below W.heap.size W w') := fun W h => by
    have hq := isV_any A E l cap ev e t v W ((Hr.out.at_ hbx).at_ h) HK.out ((HV.out.at_ hbx).at_ h) HNV.out
    rw [HIS.out] at hq
    exact hq
  have HMS : Hid (∀ W, Below wx.heap.size wx W → Calls Tryz.prog 83 #[.slice none 0 0, .agg #[.int .i64 p.op, .int .i64 p.ctor, .int .i64 p.n, .int .i64 p.m, .int .i64 p.var, .slice D p.kids.length ep], .agg #[.int .i64 v.ctor, .int .i64 v.n, .slice E v.kids.length ev]] W (MsQ e w.heap.size (1 + wP p) [] (mtS 10 p v) W)) := fun W h => ms_any l 10 10 e e w.heap.size D E ep ev t p v (.slice none 0 0) [] W hsh hfv (HP.out.keep (fun q hq => (below_aft hbx h hbx.size).cell (p := q) (by omega)) (Nat.le_refl _)) (HV.out.keep (fun q hq => (below_aft hbx h hbx.size).cell (p := q) (by omega)) (Nat.le_refl _)) (by have := (below_aft hbx h hbx.size).size; omega) (OBr.nil _ _ _ _) (by simp; omega)
  have HWV : Hid (∀ L, mtS 10 p v = some L → ∀ b ∈ L, wV b.val ≤ 1048576) := fun L h b hb => by have := mtS_wV 10 p v L h b hb; omega
  have HPL : Hid (wP p ≤ 60) := by unfold Hid; omega
  clear hsh hfv h60 h61
  rw [ho0] at HMS HWV
  rw [ho0] at HM
  have HOO := Lib.hid ho0
  clear ho0
  go_enter Tryz.func33, Tryz.ntmps33
  go_wp2_with (first
    | (go_at_call 64; (try rw [HW.out]); (with_reducible refine (HPV.out wx (Below.refl _ _)).mono ?_); rintro e1 w1 ⟨rfl, hb1⟩; have HX1 := Lib.hid (And.intro (HXT.out.at_ hb1) (And.intro (HXP.out.at_ hb1) (HXV.out.at_ hb1))); have hbw1 := below_aft hbx hb1 hbx.size; obtain ⟨x0', x1'⟩ := HX1.out.1; obtain ⟨y0', y1', y2', y3', y4', y5'⟩ := HX1.out.2.1; obtain ⟨z0', z1', z2'⟩ := HX1.out.2.2; clear x0 x1 y0 y1 y2 y3 y4 y5 z0 z1 z2)
    | (go_at_call 73; (with_reducible refine (HIV.out w1 hb1).mono ?_); rintro e2 w2 ⟨rfl, hb2⟩; have hb12 := below_aft hb1 hb2 hb1.size; have hbw2 := below_aft hbx hb12 hbx.size; have HX2 := Lib.hid (And.intro (HXT.out.at_ hb12) (And.intro (HXP.out.at_ hb12) (HXV.out.at_ hb12))); obtain ⟨a0, a1⟩ := HX2.out.1; obtain ⟨b0, b1, b2, b3, b4, b5⟩ := HX2.out.2.1; obtain ⟨d0, d1, d2⟩ := HX2.out.2.2; clear x0' x1' y0' y1' y2' y3' y4' y5' z0' z1' z2')
    | (go_at_call 83; (with_reducible refine (HMS.out w2 hb12).mono ?_); intro e3 w3 hq3; obtain ⟨u3, rfl, hb3⟩ := hq3.none_; have hbw3 := below_aft hbw2 hb3 hbw2.size; clear a0 a1 b0 b1 b2 b3 b4 b5 d0 d1 d2)
    | fail)
  go_ret2
  exact MqT.no HM.out (hbw3.alloc hbw3.size _)
set_option maxHeartbeats 4000000 in
theorem mq_s4 (A D E : Option Addr) (l : List Da) (cap ep ev e : Nat) (t : Ty) (p : Pt) (v : Vl) (w : World) (hr : RDas w w.heap.size A l) (hp : RPs e w w.heap.size D p.kids) (hv : RVs e w w.heap.size E v.kids) (hn : wP p ≤ 1048576) (hnv : wV v ≤ 16000000) (L : List Bn) (h0 : pvT l t p = true) (h1 : isV l t v = true) (ho0 : mtS 10 p v = some L) :
    Calls Tryz.prog 33 #[.slice A l.length cap, .agg #[.int .i64 t.data, .int .i64 t.index], .agg #[.int .i64 p.op, .int .i64 p.ctor, .int .i64 p.n, .int .i64 p.m, .int .i64 p.var, .slice D p.kids.length ep], .agg #[.int .i64 v.ctor, .int .i64 v.n, .slice E v.kids.length ev]] w (MqT e (mqO l t p v) w) := by
  have Hr := Lib.hid hr
  have HP := Lib.hid hp
  have HV := Lib.hid hv
  have HN := Lib.hid hn
  have HNV := Lib.hid hnv
  clear hr hp hv hn hnv
  generalize hwx : ((w.alloc (.cells #[.int .i64 t.data, .int .i64 t.index] 31)).alloc (.cells #[.int .i64 p.op, .int .i64 p.ctor, .int .i64 p.n, .int .i64 p.m, .int .i64 p.var, .slice D p.kids.length ep] 45)).alloc (.cells #[.int .i64 v.ctor, .int .i64 v.n, .slice E v.kids.length ev] 51) = wx
  have hbx : Below w.heap.size w wx := below_box3 hwx
  have hsx1 : w.heap.size + 3 ≤ wx.heap.size := by rw [← hwx]; simp
  have HXT : Hid (Bx wx w.heap.size t) := by rw [← hwx]; exact ⟨by simp [go_sem], by simp [go_sem]⟩
  have HXP : Hid (PBx wx (w.heap.size + 1) p (.slice D p.kids.length ep)) := by rw [← hwx]; exact ⟨by simp [go_sem], by simp [go_sem], by simp [go_sem], by simp [go_sem], by simp [go_sem], by simp [go_sem]⟩
  have HXV : Hid (VBx wx (w.heap.size + 2) v.ctor v.n (.slice E v.kids.length ev)) := by rw [← hwx]; exact ⟨by simp [go_sem], by simp [go_sem], by simp [go_sem]⟩
  have HW := Lib.hid hwx
  clear hwx
  obtain ⟨x0, x1⟩ := HXT.out
  obtain ⟨y0, y1, y2, y3, y4, y5⟩ := HXP.out
  obtain ⟨z0, z1, z2⟩ := HXV.out
  have HVT := Lib.hid h0
  have HIS := Lib.hid h1
  have ht : TyOK l t := by
    by_cases ht : TyOK l t
    · exact ht
    · rw [pvT_no ht] at h0; cases h0
  have HK := Lib.hid ht
  clear ht
  have HM := Lib.hid (mqO_yes h0 h1)
  obtain ⟨hsh, h60⟩ := pvT_sh h0
  obtain ⟨hfv, h61⟩ := isV_parts h1
  clear h0 h1
  have HPV : Hid (∀ W, Below wx.heap.size wx W → Calls Tryz.prog 64 #[.slice A l.length cap, .agg #[.int .i64 t.data, .int .i64 t.index], .agg #[.int .i64 p.op, .int .i64 p.ctor, .int .i64 p.n, .int .i64 p.m, .int .i64 p.var, .slice D p.kids.length ep]] W fun e w' => e = .returned (.bool true) ∧ Below W.heap.size W w') := fun W h => by
    have hq := pv_spec A D l cap ep e t p W ((Hr.out.at_ hbx).at_ h) ((HP.out.at_ hbx).at_ h) HN.out
    rw [HVT.out] at hq
    exact hq
  have HIV : Hid (∀ W, Below wx.heap.size wx W → Calls Tryz.prog 73 #[.slice A l.length cap, .agg #[.int .i64 t.data, .int .i64 t.index], .agg #[.int .i64 v.ctor, .int .i64 v.n, .slice E v.kids.length ev]] W fun e w' => e = .returned (.bool true) ∧ Below W.heap.size W w') := fun W h => by
    have hq := isV_any A E l cap ev e t v W ((Hr.out.at_ hbx).at_ h) HK.out ((HV.out.at_ hbx).at_ h) HNV.out
    rw [HIS.out] at hq
    exact hq
  have HMS : Hid (∀ W, Below wx.heap.size wx W → Calls Tryz.prog 83 #[.slice none 0 0, .agg #[.int .i64 p.op, .int .i64 p.ctor, .int .i64 p.n, .int .i64 p.m, .int .i64 p.var, .slice D p.kids.length ep], .agg #[.int .i64 v.ctor, .int .i64 v.n, .slice E v.kids.length ev]] W (MsQ e w.heap.size (1 + wP p) [] (mtS 10 p v) W)) := fun W h => ms_any l 10 10 e e w.heap.size D E ep ev t p v (.slice none 0 0) [] W hsh hfv (HP.out.keep (fun q hq => (below_aft hbx h hbx.size).cell (p := q) (by omega)) (Nat.le_refl _)) (HV.out.keep (fun q hq => (below_aft hbx h hbx.size).cell (p := q) (by omega)) (Nat.le_refl _)) (by have := (below_aft hbx h hbx.size).size; omega) (OBr.nil _ _ _ _) (by simp; omega)
  have HWV : Hid (∀ L, mtS 10 p v = some L → ∀ b ∈ L, wV b.val ≤ 1048576) := fun L h b hb => by have := mtS_wV 10 p v L h b hb; omega
  have HPL : Hid (wP p ≤ 60) := by unfold Hid; omega
  clear hsh hfv h60 h61
  rw [ho0] at HMS HWV
  rw [ho0] at HM
  have HOO := Lib.hid ho0
  clear ho0
  have HSO : Hid (∀ (W : World) {A3 : Option Addr} {c3 : Nat}, L.length ≤ 61 → RBs e W W.heap.size A3 L → Calls Tryz.prog 84 #[.slice A3 L.length c3] W (SoQ e (sortB L 6) W)) := fun W A3 c3 h1 h => so_any e A3 c3 L W h (by omega) (HWV.out L rfl)
  go_enter Tryz.func33, Tryz.ntmps33
  go_wp2_with (first
    | (go_at_call 64; (try rw [HW.out]); (with_reducible refine (HPV.out wx (Below.refl _ _)).mono ?_); rintro e1 w1 ⟨rfl, hb1⟩; have HX1 := Lib.hid (And.intro (HXT.out.at_ hb1) (And.intro (HXP.out.at_ hb1) (HXV.out.at_ hb1))); have hbw1 := below_aft hbx hb1 hbx.size; obtain ⟨x0', x1'⟩ := HX1.out.1; obtain ⟨y0', y1', y2', y3', y4', y5'⟩ := HX1.out.2.1; obtain ⟨z0', z1', z2'⟩ := HX1.out.2.2; clear x0 x1 y0 y1 y2 y3 y4 y5 z0 z1 z2)
    | (go_at_call 73; (with_reducible refine (HIV.out w1 hb1).mono ?_); rintro e2 w2 ⟨rfl, hb2⟩; have hb12 := below_aft hb1 hb2 hb1.size; have hbw2 := below_aft hbx hb12 hbx.size; have HX2 := Lib.hid (And.intro (HXT.out.at_ hb12) (And.intro (HXP.out.at_ hb12) (HXV.out.at_ hb12))); obtain ⟨a0, a1⟩ := HX2.out.1; obtain ⟨b0, b1, b2, b3, b4, b5⟩ := HX2.out.2.1; obtain ⟨d0, d1, d2⟩ := HX2.out.2.2; clear x0' x1' y0' y1' y2' y3' y4' y5' z0' z1' z2')
    | (go_at_call 83; (with_reducible refine (HMS.out w2 hb12).mono ?_); intro e3 w3 hq3; obtain ⟨u3, rfl, ho3, hn3, hb3⟩ := hq3.some_; have hbw3 := below_aft hbw2 hb3 hbw2.size; have HL3 : Hid (L.length ≤ 61) := (by unfold Hid; have := HPL.out; omega); obtain ⟨A3, c3, rfl, hr3⟩ := ho3.reads hbw3.size (by have := HL3.out; unfold maxLen; simp only [List.nil_append]; omega); rw [List.nil_append] at hr3; have HR3 := Lib.hid hr3; clear hr3 ho3 hn3 a0 a1 b0 b1 b2 b3 b4 b5 d0 d1 d2)
    | (go_at_call 84; (with_reducible refine (HSO.out w3 HL3.out HR3.out).mono ?_); rintro e4 w4 ⟨A4, c4, rfl, ho4, hb4⟩; have HO4 := Lib.hid ho4.reads; have hbw4 := below_aft hbw3 hb4 hbw3.size; clear ho4)
    | fail)
  go_ret2
  refine ⟨A4, sortB L 6, c4, ?_, by rw [HM.out]; rfl, HO4.out, hbw4⟩
  rw [HM.out]; rfl
theorem mq_spec (A D E : Option Addr) (l : List Da) (cap ep ev e : Nat) (t : Ty) (p : Pt) (v : Vl) (w : World) (hr : RDas w w.heap.size A l) (hp : RPs e w w.heap.size D p.kids) (hv : RVs e w w.heap.size E v.kids) (hn : wP p ≤ 1048576) (hnv : wV v ≤ 16000000) :
    Calls Tryz.prog 33 #[.slice A l.length cap, .agg #[.int .i64 t.data, .int .i64 t.index], .agg #[.int .i64 p.op, .int .i64 p.ctor, .int .i64 p.n, .int .i64 p.m, .int .i64 p.var, .slice D p.kids.length ep], .agg #[.int .i64 v.ctor, .int .i64 v.n, .slice E v.kids.length ev]] w (MqT e (mqO l t p v) w) := by
  cases h0 : pvT l t p with
  | false => exact mq_s1 A D E l cap ep ev e t p v w hr hp hv hn hnv h0
  | true =>
    cases h1 : isV l t v with
    | false => exact mq_s2 A D E l cap ep ev e t p v w hr hp hv hn hnv h0 h1
    | true =>
      cases h2 : mtS 10 p v with
      | none => exact mq_s3 A D E l cap ep ev e t p v w hr hp hv hn hnv h0 h1 h2
      | some L => exact mq_s4 A D E l cap ep ev e t p v w hr hp hv hn hnv L h0 h1 h2
end Go.Proofs.YthecfkdilbfimaaGreat
namespace Go.Proofs.YthecfkdilbfimaaGreat
open Go.RowKit Go.Sort Go.Deep
set_option maxRecDepth 100000
set_option linter.unusedVariables false

theorem sub_len : ∀ (a b : List Int), a.Nodup → (∀ x ∈ a, x ∈ b) → a.length ≤ b.length
  | [], _, _, _ => Nat.zero_le _
  | x :: a, b, hn, hs => by
    have hx : x ∈ b := hs x (List.mem_cons_self ..)
    have hn' := List.nodup_cons.1 hn
    have h := sub_len a (b.erase x) hn'.2 (fun y hy => (List.mem_erase_of_ne (fun e => hn'.1 (by rw [← e]; exact hy))).2 (hs y (List.mem_cons_of_mem _ hy)))
    rw [List.length_erase_of_mem hx] at h
    have : 0 < b.length := List.length_pos_of_mem hx
    simp only [List.length_cons]; omega
theorem sub_back {a b : List Int} (hn : a.Nodup) (hs : ∀ x ∈ a, x ∈ b) (hl : b.length ≤ a.length) : ∀ y ∈ b, y ∈ a := by
  intro y hy
  by_cases h : y ∈ a
  · exact h
  · have h1 := sub_len a (b.erase y) hn (fun x hx => (List.mem_erase_of_ne (fun e => h (by rw [← e]; exact hx))).2 (hs x hx))
    rw [List.length_erase_of_mem hy] at h1
    have : 0 < b.length := List.length_pos_of_mem hy
    omega
def vsV (L : List Vt) : List Int := L.map (·.var)
def vsB (L : List Bn) : List Int := L.map (·.var)
theorem once_nodup {L : List Vt} (h : upto (onceV L) L.length = true) : (vsV L).Nodup := by
  unfold vsV List.Nodup
  rw [List.pairwise_iff_getElem]
  intro i j hi hj hij e
  rw [List.length_map] at hi hj
  rw [List.getElem_map, List.getElem_map] at e
  have h1 := upto_get h hi
  have h2 := upto_get h hj
  rw [onceV_at hi] at h1
  rw [onceV_at hj] at h2
  have h1 := of_decide_eq_true h1
  have h2 := of_decide_eq_true h2
  rw [e] at h1
  omega
theorem alike_sub {a b : List Vt} (h : alike a b = true) (ha : (vsV a).Nodup) : ∀ y ∈ vsV b, y ∈ vsV a := by
  unfold alike at h
  rw [Bool.and_eq_true] at h
  have hl := of_decide_eq_true h.2
  refine sub_back ha (fun x hx => ?_) (by unfold vsV; rw [List.length_map, List.length_map]; omega)
  obtain ⟨u, hu, rfl⟩ := List.mem_map.1 hx
  obtain ⟨i, hi, rfl⟩ := List.mem_iff_getElem.1 hu
  have h1 := upto_get h.1 hi
  rcases findV_cases b a[i].var with e | ⟨k, hk, e⟩
  · rw [alV_no hi e] at h1; cases h1
  · have hv : b[k].var = a[i].var := by
      unfold findV at e
      by_cases hq : b.findIdx (fun x => x.var == a[i].var) < b.length
      · rw [if_pos hq] at e
        have e' : b.findIdx (fun x => x.var == a[i].var) = k := by omega
        have := List.findIdx_getElem (w := hq)
        subst e'
        simpa using this
      · rw [if_neg hq] at e; omega
    rw [← hv]
    exact List.mem_map.2 ⟨b[k], List.getElem_mem hk, rfl⟩
def Dv (vs : List Vt) (L : List Bn) : Prop := (vsB L).Nodup ∧ ∀ b ∈ L, b.var ∈ vsV vs ∧ 0 ≤ b.var ∧ b.var ≤ 5
theorem Dv.nil (vs : List Vt) : Dv vs [] := ⟨List.nodup_nil, fun b h => by cases h⟩
theorem vsV_app (a b : List Vt) : vsV (a ++ b) = vsV a ++ vsV b := List.map_append
theorem vsB_app (a b : List Bn) : vsB (a ++ b) = vsB a ++ vsB b := List.map_append
theorem Dv.wide {vs vs' : List Vt} {L : List Bn} (h : Dv vs L) (hs : ∀ x ∈ vsV vs, x ∈ vsV vs') : Dv vs' L := ⟨h.1, fun b hb => ⟨hs _ (h.2 b hb).1, (h.2 b hb).2⟩⟩
theorem Dv.app {vs vs' : List Vt} {L M : List Bn} (h : Dv vs L) (h' : Dv vs' M) (hn : (vsV (vs ++ vs')).Nodup) : Dv (vs ++ vs') (L ++ M) := by
  rw [vsV_app, List.nodup_append] at hn
  refine ⟨?_, fun b hb => ?_⟩
  · rw [vsB_app, List.nodup_append]
    refine ⟨h.1, h'.1, fun x hx y hy => ?_⟩
    obtain ⟨b, hb, rfl⟩ := List.mem_map.1 hx
    obtain ⟨c, hc, rfl⟩ := List.mem_map.1 hy
    exact hn.2.2 _ (h.2 b hb).1 _ (h'.2 c hc).1
  · rw [vsV_app]
    rcases List.mem_append.1 hb with hb | hb
    · exact ⟨List.mem_append_left _ (h.2 b hb).1, (h.2 b hb).2⟩
    · exact ⟨List.mem_append_right _ (h'.2 b hb).1, (h'.2 b hb).2⟩
theorem Dv.cat {f : Nat → Option (List Bn)} {g : Nat → List Vt} : ∀ (k : Nat) (L : List Bn), (∀ i L', i < k → f i = some L' → Dv (g i) L') → (vsV (catV g k)).Nodup → catO f k = some L → Dv (catV g k) L
  | 0, L, _, _, h => by cases h; exact Dv.nil _
  | k + 1, L, hf, hn, h => by
    cases hc : catO f k with
    | none => rw [catO_up 1 hc] at h; cases h
    | some M =>
      cases hk : f k with
      | none => rw [catO_none (Nat.lt_succ_self k) hk] at h; cases h
      | some M' =>
        rw [catO_some hc hk] at h
        cases h
        have hn1 : (vsV (catV g k)).Nodup := by
          have := hn
          rw [show catV g (k + 1) = catV g k ++ g k from rfl, vsV_app, List.nodup_append] at this
          exact this.1
        exact (Dv.cat k M (fun i L' hi h => hf i L' (by omega) h) hn1 hc).app (hf k M' (by omega) hk) hn
theorem vr_or {l : List Da} {d : Nat} {t : Ty} {p : Pt} (h : p.op = 5) (h0 : 0 < p.kids.length) : vrP l (d + 1) t p = vrP l d t p.kids[0] := by
  have ht : tysP l t p = [t, t] := by rw [tysP_other (by omega), h]; rfl
  rw [vrP_go, hdV_no (by omega), List.nil_append]
  unfold limV
  rw [if_pos h]
  show [] ++ kidR l d (tysP l t p) p.kids 0 = _
  rw [List.nil_append, kidR_at (by rw [ht]; simp) h0]
  simp only [ht, List.getElem_cons_zero]
theorem vr_as {l : List Da} {d : Nat} {t : Ty} {p : Pt} (h : p.op = 6) (h0 : 0 < p.kids.length) : vrP l (d + 1) t p = [⟨p.var, t⟩] ++ vrP l d t p.kids[0] := by
  have ht : tysP l t p = [t] := by rw [tysP_other (by omega), h]; rfl
  rw [vrP_go, hdV_yes (.inr h)]
  unfold limV
  rw [if_neg (by omega), ht]
  show _ ++ ([] ++ kidR l d [t] p.kids 0) = _
  rw [List.nil_append, kidR_at (by simp) h0]
  rfl
theorem vr_ctor {l : List Da} {d : Nat} {t : Ty} {p : Pt} (h : p.op = 4) : vrP l (d + 1) t p = catV (kidR l d (agR l t p.ctor) p.kids) (agR l t p.ctor).length := by
  rw [vrP_go, hdV_no (by omega), List.nil_append]
  unfold limV
  rw [if_neg (by omega), tysP_ctor h]
theorem lin_parts {l : List Da} {d : Nat} {t : Ty} {p : Pt} (h : linP l (d + 1) t p = true) : (∀ i (h : i < (tysP l t p).length) (h' : i < p.kids.length), linP l d (tysP l t p)[i] p.kids[i] = true) ∧ headL l d t p = true := by
  rw [linP_go, Bool.and_eq_true] at h
  exact ⟨fun i hi hi' => by rw [← kidL_at hi hi']; exact upto_get h.1 hi, h.2⟩
theorem lin_nodup (l : List Da) : ∀ (d : Nat) (t : Ty) (p : Pt), shP l d t p = true → linP l d t p = true → (vsV (vrP l d t p)).Nodup
  | 0, _, _, h, _ => by rw [shP_zero] at h; cases h
  | d + 1, t, p, hs, hl => by
    obtain ⟨hk, hh⟩ := lin_parts hl
    by_cases h5 : p.op = 5
    · obtain ⟨h2, hs0, _⟩ := or_partsP hs h5
      have h0 : 0 < p.kids.length := by omega
      have ht : tysP l t p = [t, t] := by rw [tysP_other (by omega), h5]; rfl
      rw [vr_or h5 h0]
      refine lin_nodup l d t _ (hs0 h0) ?_
      have := hk 0 (by rw [ht]; simp) h0
      simpa only [ht, List.getElem_cons_zero] using this
    · rw [headL_no h5] at hh
      exact once_nodup hh
theorem lin_vars (l : List Da) : ∀ (d : Nat) (t : Ty) (p : Pt) (v : Vl) (L : List Bn), shP l d t p = true → linP l d t p = true → mtS d p v = some L → Dv (vrP l d t p) L
  | 0, _, _, _, _, h, _, _ => by rw [shP_zero] at h; cases h
  | d + 1, t, p, v, L, hs, hl, h => by
    have hnd := lin_nodup l (d + 1) t p hs hl
    obtain ⟨hk, hh⟩ := lin_parts hl
    obtain ⟨ho, hkl, hks⟩ := shP_parts hs
    rcases own_ops ho with hop | hop | hop | hop | hop | hop
    · rw [mtS_any hop] at h; cases h; exact Dv.nil _
    · rw [mtS_var hop] at h; cases h
      refine ⟨by simp [vsB], fun b hb => ?_⟩
      simp at hb; subst hb
      exact ⟨by rw [vrP_go, hdV_yes (.inl hop), vsV_app]; exact List.mem_append_left _ (List.mem_cons_self ..), ho.1 (.inl hop)⟩
    · by_cases hc : p.n ≤ v.n ∧ v.n ≤ p.m
      · rw [mtS_in hop hc.1 hc.2] at h; cases h; exact Dv.nil _
      · rw [mtS_out hop hc] at h; cases h
    · by_cases hc : p.ctor = v.ctor
      · obtain ⟨hmem, hkl', hsh⟩ := ctor_partsP hs hop
        rw [mtS_ctor hop hc, hkl'] at h
        rw [vr_ctor hop] at hnd ⊢
        refine Dv.cat _ _ (fun i L' hi hq => ?_) hnd h
        have hi' : i < p.kids.length := by omega
        have ht := tysP_ctor (l := l) (t := t) hop
        rw [kidR_at hi hi']
        have hlk : linP l d (agR l t p.ctor)[i] p.kids[i] = true := by
          have := hk i (by rw [ht]; exact hi) hi'
          simpa only [ht] using this
        unfold kidS at hq
        rw [getD_kid hi'] at hq
        exact lin_vars l d _ _ _ _ (hsh i hi hi') hlk hq
      · rw [mtS_other hop hc] at h; cases h
    · obtain ⟨h2, hs0, hs1⟩ := or_partsP hs hop
      have h0 : 0 < p.kids.length := by omega
      have h1 : 1 < p.kids.length := by omega
      have ht : tysP l t p = [t, t] := by rw [tysP_other (by omega), hop]; rfl
      have hl0 : linP l d t p.kids[0] = true := by
        have := hk 0 (by rw [ht]; simp) h0
        simpa only [ht, List.getElem_cons_zero] using this
      have hl1 : linP l d t p.kids[1] = true := by
        have := hk 1 (by rw [ht]; simp) h1
        simpa only [ht, List.getElem_cons_succ, List.getElem_cons_zero] using this
      rw [vr_or hop h0]
      cases hq : mtS d p.kids[0] v with
      | some L0 =>
        rw [mtS_or0 hop h0 hq] at h; cases h
        exact lin_vars l d _ _ _ _ (hs0 h0) hl0 hq
      | none =>
        rw [mtS_or1 hop h0 h1 hq] at h
        rw [headL_or hop h0 h1] at hh
        exact (lin_vars l d _ _ _ _ (hs1 h1) hl1 h).wide (alike_sub hh (lin_nodup l d t _ (hs0 h0) hl0))
    · obtain ⟨h1, hs0⟩ := as_partsP hs hop
      have h0 : 0 < p.kids.length := by omega
      have ht : tysP l t p = [t] := by rw [tysP_other (by omega), hop]; rfl
      have hl0 : linP l d t p.kids[0] = true := by
        have := hk 0 (by rw [ht]; simp) h0
        simpa only [ht, List.getElem_cons_zero] using this
      rw [mtS_as hop h0] at h
      obtain ⟨L2, hq, rfl⟩ := Option.map_eq_some_iff.1 h
      rw [vr_as hop h0] at hnd ⊢
      have hd1 : Dv [⟨p.var, t⟩] [⟨p.var, v⟩] := ⟨by simp [vsB], fun b hb => by simp at hb; subst hb; exact ⟨List.mem_cons_self .., ho.1 (.inr hop)⟩⟩
      exact hd1.app (lin_vars l d _ _ _ _ (hs0 h0) hl0 hq) hnd

theorem pick_one {L : List Bn} (h : (vsB L).Nodup) (n : Nat) : (pickB L n).length ≤ 1 := by
  have h1 : (vsB (pickB L n)).Nodup := List.Nodup.sublist ((List.filter_sublist).map _) h
  have h2 : ∀ b ∈ pickB L n, b.var = (n : Int) := fun b hb => by have := (List.mem_filter.1 hb).2; simpa using this
  match hp : pickB L n with
  | [] => simp
  | [_] => simp
  | x :: y :: r =>
    rw [hp] at h1 h2
    have e1 := h2 x (by simp)
    have e2 := h2 y (by simp)
    simp [vsB, e1, e2] at h1
theorem perm_small {α : Type} {a b : List α} (h : a.Perm b) (hl : a.length ≤ 1) : a = b := by
  match a, b, h, hl with
  | [], b, h, _ => exact (List.Perm.nil_eq h)
  | [x], b, h, _ => exact (List.perm_singleton.1 h.symm).symm
theorem sort_perm {L L' : List Bn} (hp : L.Perm L') (hn : (vsB L).Nodup) (n : Nat) : sortB L n = sortB L' n := by
  induction n with
  | zero => rfl
  | succ n ih => rw [sortB, sortB, ih, perm_small (a := pickB L n) (b := pickB L' n) (hp.filter _) (pick_one hn n)]
def Asc (S : List Bn) : Prop := S.Pairwise (fun a b => a.var ≤ b.var)
theorem sort_asc (n : Nat) : ∀ S : List Bn, Asc S → (∀ b ∈ S, 0 ≤ b.var) → S.filter (fun b => decide (b.var < ((n + 1 : Nat) : Int))) = S.filter (fun b => decide (b.var < (n : Int))) ++ pickB S n
  | [], _, _ => rfl
  | x :: S, ha, h0 => by
    have ha' := List.pairwise_cons.1 ha
    have ih := sort_asc n S ha'.2 (fun b hb => h0 b (List.mem_cons_of_mem _ hb))
    unfold pickB at ih ⊢
    by_cases h1 : x.var < (n : Int)
    · rw [List.filter_cons_of_pos (by simp; omega), List.filter_cons_of_pos (by simpa using h1), List.filter_cons_of_neg (by simp; omega), ih]; rfl
    · have hnone : S.filter (fun b => decide (b.var < (n : Int))) = [] := List.filter_eq_nil_iff.2 (fun b hb => by have := ha'.1 b hb; simp; omega)
      rw [hnone] at ih
      rw [List.filter_cons_of_neg (by simpa using h1) (l := S) (p := fun b => decide (b.var < (n : Int))), hnone]
      by_cases h2 : x.var = (n : Int)
      · rw [List.filter_cons_of_pos (by simp; omega), List.filter_cons_of_pos (by simpa using h2), ih]; rfl
      · rw [List.filter_cons_of_neg (by simp; omega), List.filter_cons_of_neg (by simpa using h2), ih]
theorem sort_below {S : List Bn} (ha : Asc S) (h0 : ∀ b ∈ S, 0 ≤ b.var) (n : Nat) : sortB S n = S.filter (fun b => decide (b.var < (n : Int))) := by
  induction n with
  | zero => exact (List.filter_eq_nil_iff.2 (fun b hb => by have := h0 b hb; simp; omega)).symm
  | succ n ih => rw [sortB, ih, sort_asc n S ha h0]
theorem sort_is {S L : List Bn} (hp : S.Perm L) (hn : (vsB L).Nodup) (ha : Asc S) (h0 : ∀ b ∈ L, 0 ≤ b.var ∧ b.var ≤ 5) : S = sortB L 6 := by
  have hnS : (vsB S).Nodup := (hp.map _).nodup_iff.2 hn
  rw [← sort_perm hp hnS, sort_below ha (fun b hb => (h0 b (hp.mem_iff.1 hb)).1)]
  exact (List.filter_eq_self.2 (fun b hb => by have := (h0 b (hp.mem_iff.1 hb)).2; simp; omega)).symm
end Go.Proofs.YthecfkdilbfimaaGreat
namespace Go.Proofs.YthecfkdilbfimaaGreat
open Go.RowKit Go.Sort Go.Deep Go.Lib Go.Shelf
set_option maxRecDepth 100000
set_option linter.unusedVariables false

abbrev Bx4 := Bn × (Option Addr × Nat)
instance : Inhabited Bx4 := ⟨(default, (none, 0))⟩
def encX (x : Bx4) : List Value := [.int .i64 x.1.var, .int .i64 x.1.val.ctor, .int .i64 x.1.val.n, .slice x.2.1 x.1.val.kids.length x.2.2]
theorem encX_one (x : Bx4) : ∀ u ∈ encX x, u.oneCell' = true := by intro u hu; simp [encX] at hu; rcases hu with rfl | rfl | rfl | rfl <;> rfl
def cfX (x y : Bx4) : Int := Lib.compareInt x.1.var y.1.var
theorem ltX (x y : Bx4) : ltOf cfX x y = decide (x.1.var < y.1.var) := by
  unfold ltOf cfX Lib.compareInt
  by_cases h : x.1.var < y.1.var
  · rw [if_pos h, decide_eq_true h]; rfl
  · rw [if_neg h, decide_eq_false h]
    by_cases h2 : x.1.var > y.1.var
    · rw [if_pos h2]; rfl
    · rw [if_neg h2]; rfl
theorem swoX : SWO (ltOf cfX) where
  irrefl x := by rw [ltX]; exact decide_eq_false (by omega)
  trans x y z h h' := by rw [ltX] at *; have := of_decide_eq_true h; have := of_decide_eq_true h'; exact decide_eq_true (by omega)
  ntrans x y z h h' := by rw [ltX] at *; have := of_decide_eq_false h; have := of_decide_eq_false h'; exact decide_eq_false (by omega)
set_option maxHeartbeats 1000000 in
theorem closeX (x y : Bx4) (W : World) : Calls Tryz.prog 88 #[.agg #[.int .i64 x.1.var, .int .i64 x.1.val.ctor, .int .i64 x.1.val.n, .slice x.2.1 x.1.val.kids.length x.2.2], .agg #[.int .i64 y.1.var, .int .i64 y.1.val.ctor, .int .i64 y.1.val.n, .slice y.2.1 y.1.val.kids.length y.2.2]] W fun e w' => e = .returned (.int .i64 (cfX x y)) ∧ ∃ q os', w' = grow (W.drewN q) os' := by
  have hcon := fun W' => AnyG.cmp_Compare_int Tryz.cmpInt x.1.var y.1.var W'
  change ∀ W', Calls Tryz.prog 89 _ _ _ at hcon
  unfold cfX
  generalize Lib.compareInt x.1.var y.1.var = r at hcon ⊢
  go_enter Tryz.func88, Tryz.ntmps88
  go_wp2_with (go_at_call 89; refine (hcon _).mono ?_; rintro e w' ⟨rfl, rfl⟩)
  go_ret
  exact ⟨rfl, 0, _, by rw [alloc_eq_grow, alloc_eq_grow, grow_grow]; rfl⟩
theorem cmpX (blk off size : Nat) (w : World) : CmpLays Tryz.prog 88 #[] encX 4 cfX blk off size w := fun _ _ _ _ x y => closeX x y _
theorem lenX (n : Nat) (W : World) (h : n ≤ 12) : Calls Tryz.prog 136 #[.int .u64 n] W fun e w' => (∃ l : Int, e = .returned (.int .i64 l)) ∧ w' = W :=
  (Any.bits_Len Tryz.bitsLen2 n W (by omega) (by omega)).mono fun _ _ ⟨he, hw⟩ => ⟨⟨_, he⟩, hw⟩
theorem sortX (blk cap : Nat) (d : Array Bx4) (w : World) (hH : HoldsK encX 4 w blk 0 d) (hblk : blk < w.heap.size) (h12 : d.size ≤ 12) :
    Calls Tryz.prog 87 #[.slice (some ⟨blk, 0, none⟩) d.size cap, .func (.func 88) #[] #[]] w fun e w' => e = .returned (.tuple #[]) ∧ ∃ d' n os, PermIn 0 d.size d d' ∧ SortedIn (ltOf cfX) 0 d.size d' ∧ w' = sortWorldK encX 4 w blk 0 n d' os := by
  have eg : ∀ args w, (callFunc 88 args).run Tryz.prog w = .ok (.enter 88 args) w := enters_of Tryz.func88 (by kernel_rfl) rfl
  exact AnyQ.slices_SortFunc_small_sorted Tryz.sortBn 4 Tryz.isAgg128 Tryz.sizeOf128 encX (fun _ => rfl) encX_one cfX 88 #[] swoX blk 0 cap d w eg (cmpX blk 0 d.size w) hH hblk h12 lenX
end Go.Proofs.YthecfkdilbfimaaGreat
