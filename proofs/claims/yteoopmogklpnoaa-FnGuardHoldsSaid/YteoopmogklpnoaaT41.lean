/-
  What the variables of a pattern stand for: the document's function. No statement is proved here.
-/
import Derived.Test.YteoopmogklpnoaaT40
namespace Go.Proofs.Yteoopmogklpnoaa
open Go.RowKit Go.Sort Go.Deep
set_option maxRecDepth 100000
set_option linter.unusedVariables false
/-- What is returned: whether the value matches, and then what was there and what came. -/
def MsQ (e' B N : Nat) (L : List Bn) (o : Option (List Bn)) (w : World) (E : Ending) (w' : World) : Prop := ∃ u b, E = .returned (.tuple #[u, .bool b]) ∧ b = o.isSome ∧ ((∀ L0, o = some L0 → OBr e' w' 0 B u (L ++ L0) ∧ L0.length ≤ N) ∧ ∃ L1, OBr e' w' 0 B u L1) ∧ Below w.heap.size w w'
def MsC (l : List Da) (d : Nat) : Prop := ∀ (n e e' B : Nat) (D E : Option Addr) (ep ev : Nat) (t : Ty) (p : Pt) (v : Vl) (u : Value) (L : List Bn) (w : World), shP l d t p = true → fitV l n t v = true → RPs e w B D p.kids → RVs e' w B E v.kids → B ≤ w.heap.size → OBr e' w 0 B u L → L.length + 1 + wP p ≤ 900 →
  Calls Try.prog 77 #[u, .agg #[.int .i64 p.op, .int .i64 p.ctor, .int .i64 p.n, .int .i64 p.m, .int .i64 p.var, .slice D p.kids.length ep], .agg #[.int .i64 v.ctor, .int .i64 v.n, .slice E v.kids.length ev]] w (MsQ e' B (1 + wP p) L (mtS d p v) w)
theorem MsQ.some_ {e' B N : Nat} {L L0 : List Bn} {w w' : World} {E : Ending} (h : MsQ e' B N L (some L0) w E w') : ∃ u, E = .returned (.tuple #[u, .bool true]) ∧ OBr e' w' 0 B u (L ++ L0) ∧ L0.length ≤ N ∧ Below w.heap.size w w' := by
  obtain ⟨u, b, he, hb, hL, hw⟩ := h
  subst hb
  exact ⟨u, he, (hL.1 L0 rfl).1, (hL.1 L0 rfl).2, hw⟩
theorem MsQ.none_ {e' B N : Nat} {L : List Bn} {w w' : World} {E : Ending} (h : MsQ e' B N L none w E w') : ∃ u, E = .returned (.tuple #[u, .bool false]) ∧ Below w.heap.size w w' := by
  obtain ⟨u, b, he, hb, hL, hw⟩ := h
  subst hb
  exact ⟨u, he, hw⟩
theorem MsQ.no {e' B N : Nat} {L : List Bn} {o : Option (List Bn)} {u : Value} {w w' : World} (h : o = none) (ho : ∃ L1, OBr e' w' 0 B u L1) (hb : Below w.heap.size w w') : MsQ e' B N L o w (.returned (.tuple #[u, .bool false])) w' := by
  subst h; exact ⟨_, _, rfl, rfl, ⟨(fun L0 h => by cases h), ho⟩, hb⟩
theorem MsQ.yes {e' B N : Nat} {L L0 : List Bn} {o : Option (List Bn)} {u : Value} {w w' : World} (h : o = some L0) (ho : OBr e' w' 0 B u (L ++ L0)) (hn : L0.length ≤ N) (hb : Below w.heap.size w w') : MsQ e' B N L o w (.returned (.tuple #[u, .bool true])) w' := by
  subst h; exact ⟨_, _, rfl, rfl, ⟨(fun L1 h => by cases h; exact ⟨ho, hn⟩), ⟨_, ho⟩⟩, hb⟩
set_option maxHeartbeats 4000000 in
theorem ms_1 (l : List Da) (d : Nat) (ih : MsC l d) (n e e' B : Nat) (D E : Option Addr) (ep ev : Nat) (t : Ty) (p : Pt) (v : Vl) (u : Value) (L : List Bn) (w : World) (hs : shP l (d + 1) t p = true) (hf : fitV l n t v = true) (hp : RPs e w B D p.kids) (hv : RVs e' w B E v.kids) (hB : B ≤ w.heap.size) (hu : OBr e' w 0 B u L) (hN : L.length + 1 + wP p ≤ 900) (hop : p.op = 1) :
    Calls Try.prog 77 #[u, .agg #[.int .i64 p.op, .int .i64 p.ctor, .int .i64 p.n, .int .i64 p.m, .int .i64 p.var, .slice D p.kids.length ep], .agg #[.int .i64 v.ctor, .int .i64 v.n, .slice E v.kids.length ev]] w (MsQ e' B (1 + wP p) L (mtS (d + 1) p v) w) := by
  have hl := hp.1
  have hlv := hv.1
  unfold maxLen at hl hlv
  have HP := Lib.hid hp
  have HV := Lib.hid hv
  have HF := Lib.hid hf
  have IH := Lib.hid ih
  have HU := Lib.hid hu
  have u1 := ieq_t hop
  have u2 : (p.op == 2) = false := ieq_f (by omega)
  have u3 : (p.op == 3) = false := ieq_f (by omega)
  have u4 : (p.op == 4) = false := ieq_f (by omega)
  have u5 : (p.op == 5) = false := ieq_f (by omega)
  have u6 : (p.op == 6) = false := ieq_f (by omega)
  have HM := Lib.hid (mtS_any (d := d) (p := p) (v := v) hop)
  generalize hwx : (w.alloc (.cells #[.int .i64 p.op, .int .i64 p.ctor, .int .i64 p.n, .int .i64 p.m, .int .i64 p.var, .slice D p.kids.length ep] 50)).alloc (.cells #[.int .i64 v.ctor, .int .i64 v.n, .slice E v.kids.length ev] 28) = wx
  have hbx : Below w.heap.size w wx := below_box2 hwx
  have hsx : w.heap.size + 2 ≤ wx.heap.size := by rw [← hwx]; simp
  have HXP : Hid (PBx wx w.heap.size p (.slice D p.kids.length ep)) := by rw [← hwx]; exact ⟨by simp [go_sem], by simp [go_sem], by simp [go_sem], by simp [go_sem], by simp [go_sem], by simp [go_sem]⟩
  have HXV : Hid (VBx wx (w.heap.size + 1) v.ctor v.n (.slice E v.kids.length ev)) := by rw [← hwx]; exact ⟨by simp [go_sem], by simp [go_sem], by simp [go_sem]⟩
  have HW := Lib.hid hwx
  clear hs hf hp hv ih hop hwx hu
  obtain ⟨y0, y1, y2, y3, y4, y5⟩ := HXP.out
  obtain ⟨z0, z1, z2⟩ := HXV.out
  go_enter Try.func77, Try.ntmps77
  go_wp2_with fail
  rw [HW.out]
  go_ret2
  exact MsQ.yes (L0 := []) HM.out (by rw [List.append_nil]; exact HU.out.at_ hbx hB) (by simp) hbx
set_option maxHeartbeats 4000000 in
theorem ms_2 (l : List Da) (d : Nat) (ih : MsC l d) (n e e' B : Nat) (D E : Option Addr) (ep ev : Nat) (t : Ty) (p : Pt) (v : Vl) (u : Value) (L : List Bn) (w : World) (hs : shP l (d + 1) t p = true) (hf : fitV l n t v = true) (hp : RPs e w B D p.kids) (hv : RVs e' w B E v.kids) (hB : B ≤ w.heap.size) (hu : OBr e' w 0 B u L) (hN : L.length + 1 + wP p ≤ 900) (hop : p.op = 2) :
    Calls Try.prog 77 #[u, .agg #[.int .i64 p.op, .int .i64 p.ctor, .int .i64 p.n, .int .i64 p.m, .int .i64 p.var, .slice D p.kids.length ep], .agg #[.int .i64 v.ctor, .int .i64 v.n, .slice E v.kids.length ev]] w (MsQ e' B (1 + wP p) L (mtS (d + 1) p v) w) := by
  have hl := hp.1
  have hlv := hv.1
  unfold maxLen at hl hlv
  have HP := Lib.hid hp
  have HV := Lib.hid hv
  have HF := Lib.hid hf
  have IH := Lib.hid ih
  have HU := Lib.hid hu
  have u1 : (p.op == 1) = false := ieq_f (by omega)
  have u2 := ieq_t hop
  have u3 : (p.op == 3) = false := ieq_f (by omega)
  have u4 : (p.op == 4) = false := ieq_f (by omega)
  have u5 : (p.op == 5) = false := ieq_f (by omega)
  have u6 : (p.op == 6) = false := ieq_f (by omega)
  have HM := Lib.hid (mtS_var (d := d) (p := p) (v := v) hop)
  generalize hwx : (w.alloc (.cells #[.int .i64 p.op, .int .i64 p.ctor, .int .i64 p.n, .int .i64 p.m, .int .i64 p.var, .slice D p.kids.length ep] 50)).alloc (.cells #[.int .i64 v.ctor, .int .i64 v.n, .slice E v.kids.length ev] 28) = wx
  have hbx : Below w.heap.size w wx := below_box2 hwx
  have hsx : w.heap.size + 2 ≤ wx.heap.size := by rw [← hwx]; simp
  have HXP : Hid (PBx wx w.heap.size p (.slice D p.kids.length ep)) := by rw [← hwx]; exact ⟨by simp [go_sem], by simp [go_sem], by simp [go_sem], by simp [go_sem], by simp [go_sem], by simp [go_sem]⟩
  have HXV : Hid (VBx wx (w.heap.size + 1) v.ctor v.n (.slice E v.kids.length ev)) := by rw [← hwx]; exact ⟨by simp [go_sem], by simp [go_sem], by simp [go_sem]⟩
  have HW := Lib.hid hwx
  clear hs hf hp hv ih hop hwx hu
  obtain ⟨y0, y1, y2, y3, y4, y5⟩ := HXP.out
  obtain ⟨z0, z1, z2⟩ := HXV.out
  go_enter Try.func77, Try.ntmps77
  go_wp2_with fail
  rw [HW.out]
  have HKS : Hid (∀ W, Below wx.heap.size wx W → W.cell? ⟨w.heap.size, 4, none⟩ = some (.int .i64 p.var) ∧ W.cell? ⟨w.heap.size + 1, 0, none⟩ = some (.int .i64 v.ctor) ∧ W.cell? ⟨w.heap.size + 1, 1, none⟩ = some (.int .i64 v.n) ∧ W.cell? ⟨w.heap.size + 1, 2, none⟩ = some (.slice E v.kids.length ev)) := fun W h => ⟨(h.cell (p := ⟨w.heap.size, 4, none⟩) (Go.block_lt_of_cell y4)).trans y4, (h.cell (p := ⟨w.heap.size + 1, 0, none⟩) (Go.block_lt_of_cell z0)).trans z0, (h.cell (p := ⟨w.heap.size + 1, 1, none⟩) (Go.block_lt_of_cell z1)).trans z1, (h.cell (p := ⟨w.heap.size + 1, 2, none⟩) (Go.block_lt_of_cell z2)).trans z2⟩
  clear y0 y1 y2 y3 y4 y5 z0 z1 z2
  have HBX : Hid (Below wx.heap.size wx wx.drew) := (Below.refl _ wx).drew
  refine Till.start (S := fun w' => w'.cell? ⟨w.heap.size, 4, none⟩ = some (.int .i64 p.var) ∧ w'.cell? ⟨w.heap.size + 1, 0, none⟩ = some (.int .i64 v.ctor) ∧ w'.cell? ⟨w.heap.size + 1, 1, none⟩ = some (.int .i64 v.n) ∧ w'.cell? ⟨w.heap.size + 1, 2, none⟩ = some (.slice E v.kids.length ev)) (z := 10) (by kernel_rfl) ?_
  obtain ⟨wd, hwd⟩ : ∃ wd, wd = wx.drew := ⟨_, rfl⟩
  have hsd : wx.heap.size ≤ wd.heap.size := by rw [hwd]; exact Nat.le_refl _
  rw [← hwd] at HBX ⊢
  have SQ := HKS.out wd HBX.out
  have HUD : Hid (OBr e' wd 0 B u L) := by unfold Hid; rw [hwd]; exact HU.out.at_ (below_aft hbx (Below.refl _ wx).drew hbx.size) hB
  clear hwd
  refine Till.take_ (i := 1) (d := some 21) (v := u) (ls' := #[false, true, false, false, false, false, false, false, false, false, false]) rfl rfl (by kernel_rfl) (by kernel_rfl) (by kernel_rfl) (by kernel_rfl) (fun _ _ _ h => h) SQ (Or.inl ⟨by rfl, fun wq hSw => ?_⟩) (by kernel_rfl) ?_
  · obtain ⟨hs0, hs1, hs2, hs3⟩ := hSw
    go_simp
  simp only [Act.put, List.setIfInBounds_toArray, List.set_cons_zero, List.set_cons_succ]
  refine Till.take_ (i := 3) (d := some 23) (v := .pointer (some ⟨w.heap.size, 4, none⟩)) (ls' := #[false, true, false, true, false, false, false, false, false, false, false]) rfl rfl (by kernel_rfl) (by kernel_rfl) (by kernel_rfl) (by kernel_rfl) (fun _ _ _ h => h) SQ (Or.inl ⟨by rfl, fun wq hSw => ?_⟩) (by kernel_rfl) ?_
  · obtain ⟨hs0, hs1, hs2, hs3⟩ := hSw
    go_simp
  simp only [Act.put, List.setIfInBounds_toArray, List.set_cons_zero, List.set_cons_succ]
  refine Till.take_ (i := 4) (d := some 24) (v := .int .i64 p.var) (ls' := #[false, true, false, true, true, false, false, false, false, false, false]) rfl rfl (by kernel_rfl) (by kernel_rfl) (by kernel_rfl) (by kernel_rfl) (fun _ _ _ h => h) SQ (Or.inl ⟨by rfl, fun wq hSw => ?_⟩) (by kernel_rfl) ?_
  · obtain ⟨hs0, hs1, hs2, hs3⟩ := hSw
    go_simp
  simp only [Act.put, List.setIfInBounds_toArray, List.set_cons_zero, List.set_cons_succ]
  refine Till.take_ (i := 5) (d := some 25) (v := .agg #[.int .i64 v.ctor, .int .i64 v.n, .slice E v.kids.length ev]) (ls' := #[false, true, false, true, true, true, false, false, false, false, false]) rfl rfl (by kernel_rfl) (by kernel_rfl) (by kernel_rfl) (by kernel_rfl) (fun _ _ _ h => h) SQ (Or.inl ⟨by rfl, fun wq hSw => ?_⟩) (by kernel_rfl) ?_
  · obtain ⟨hs0, hs1, hs2, hs3⟩ := hSw
    go_simp
  simp only [Act.put, List.setIfInBounds_toArray, List.set_cons_zero, List.set_cons_succ]
  refine Till.take_ (i := 6) (d := some 26) (v := .agg #[.int .i64 p.var, .int .i64 v.ctor, .int .i64 v.n, .slice E v.kids.length ev]) (ls' := #[false, true, false, true, true, true, true, false, false, false, false]) rfl rfl (by kernel_rfl) (by kernel_rfl) (by kernel_rfl) (by kernel_rfl) (fun _ _ _ h => h) SQ (Or.inl ⟨by rfl, fun wq hSw => ?_⟩) (by kernel_rfl) ?_
  · obtain ⟨hs0, hs1, hs2, hs3⟩ := hSw
    go_simp
  simp only [Act.put, List.setIfInBounds_toArray, List.set_cons_zero, List.set_cons_succ]
  clear SQ
  refine Till.all (rs := [0, 7]) (by kernel_rfl) (by decide) (List.forall_mem_cons.2 ⟨?_, List.forall_mem_cons.2 ⟨?_, fun _ h => nomatch h⟩⟩)
  · refine Till.step rfl (by rfl) ?_
    intro K hK
    have hsW : wx.heap.size ≤ (wd).heap.size := HBX.out.size
    have HB2 : Hid (Below wx.heap.size wx ((wd).alloc (.cells #[] 69))) := HBX.out.alloc hsW _
    have HE : Hid (OBr e' ((wd).alloc (.cells #[] 69)) wx.heap.size B (.slice (some ⟨(wd).heap.size, 0, none⟩) 0 0) []) := OBr.new0 (e' := e') (B := B) _ hsW
    go_simp
    refine hK _ _ (fun _ => HKS.out _ HB2.out) ?_
    clear hK K
    refine Till.all (rs := [2, 7]) (by kernel_rfl) (by decide) (List.forall_mem_cons.2 ⟨?_, List.forall_mem_cons.2 ⟨?_, fun _ h => nomatch h⟩⟩)
    · refine Till.step rfl (by rfl) ?_
      intro K hK
      have hsU : wx.heap.size ≤ ((wd).alloc (.cells #[] 69)).heap.size := HB2.out.size
      have HU2 : Hid (OBr e' ((wd).alloc (.cells #[] 69)) 0 B u L) := HU.out.at_ (below_aft hbx HB2.out hbx.size) hB
      refine wp_app_out (.tmp 20) (.tmp 21) (by rfl) (by rfl) HE.out (by rfl) HU2.out (by omega) hsU (by omega) ?_
      intro u2 w2 hO2 hgr2 hb2
      have HB2 : Hid (Below wx.heap.size wx w2) := HB2.out.trans hb2
      have HO2 := Lib.hid hO2
      clear hO2 hgr2 hb2
      refine hK _ _ (fun _ => HKS.out _ HB2.out) ?_
      clear hK K
      refine Till.all (rs := [7]) (by kernel_rfl) (by decide) (List.forall_mem_cons.2 ⟨?_, fun _ h => nomatch h⟩)
      refine Till.step rfl (by rfl) ?_
      intro K hK
      have hsV : wx.heap.size ≤ (w2).heap.size := HB2.out.size
      have HB3 : Hid (Below wx.heap.size wx ((w2).alloc (.cells #[.int .i64 p.var, .int .i64 v.ctor, .int .i64 v.n, .slice E v.kids.length ev] 69))) := HB2.out.alloc hsV _
      have HO1 : Hid (OneB ((w2).alloc (.cells #[.int .i64 p.var, .int .i64 v.ctor, .int .i64 v.n, .slice E v.kids.length ev] 69)) wx.heap.size ((w2).heap.size) p.var v E ev) := OneB.new _ hsV p.var v E ev
      have HO2' : Hid (OBr e' ((w2).alloc (.cells #[.int .i64 p.var, .int .i64 v.ctor, .int .i64 v.n, .slice E v.kids.length ev] 69)) wx.heap.size B u2 L) := HO2.out.at_ ((Below.refl _ _).alloc (Nat.le_refl _) _) (by omega)
      go_simp
      refine hK _ _ (fun _ => HKS.out _ HB3.out) ?_
      clear hK K
      refine Till.all (rs := [8]) (by kernel_rfl) (by decide) (List.forall_mem_cons.2 ⟨?_, fun _ h => nomatch h⟩)
      refine Till.step rfl (by rfl) ?_
      intro K hK
      have hsT : wx.heap.size ≤ ((w2).alloc (.cells #[.int .i64 p.var, .int .i64 v.ctor, .int .i64 v.n, .slice E v.kids.length ev] 69)).heap.size := HB3.out.size
      have HVT : Hid (RVs e' ((w2).alloc (.cells #[.int .i64 p.var, .int .i64 v.ctor, .int .i64 v.n, .slice E v.kids.length ev] 69)) B E v.kids) := HV.out.keep (fun q hq => (below_aft hbx HB3.out hbx.size).cell (p := q) (by omega)) (Nat.le_refl _)
      refine wp_app_one (.tmp 22) (.tmp 27) (by rfl) (by rfl) HO2'.out (by rfl) HO1.out HVT.out (by omega) hsT (by omega) ?_
      intro u6 w6 hO6 hb6
      have HB6 : Hid (Below wx.heap.size wx w6) := HB3.out.trans hb6
      have HO6 := Lib.hid hO6
      clear hO6 hb6
      refine hK _ _ (fun _ => HKS.out _ HB6.out) ?_
      clear hK K
      clear HVT hsT
      refine Till.all (rs := [9]) (by kernel_rfl) (by decide) (List.forall_mem_cons.2 ⟨?_, fun _ h => nomatch h⟩)
      refine Till.step rfl (by rfl) ?_
      intro K hK
      go_simp
      refine hK _ _ (fun _ => HKS.out _ HB6.out) ?_
      clear hK K
      refine Till.all (rs := [10]) (by kernel_rfl) (by decide) (List.forall_mem_cons.2 ⟨?_, fun _ h => nomatch h⟩)
      refine Till.step rfl (by rfl) ?_
      intro K hK
      go_simp
      refine hK _ _ (fun h => absurd rfl h) ?_
      clear hK K
      refine Till.done (by kernel_rfl) ?_ _
      have hbw := below_aft hbx HB6.out hbx.size
      go_wp2_with fail
      go_ret2
      exact MsQ.yes HM.out (HO6.out.lower (Nat.zero_le _)) (by simp) hbw
    · refine Till.step rfl (by rfl) ?_
      intro K hK
      have hsV : wx.heap.size ≤ ((wd).alloc (.cells #[] 69)).heap.size := HB2.out.size
      have HB3 : Hid (Below wx.heap.size wx (((wd).alloc (.cells #[] 69)).alloc (.cells #[.int .i64 p.var, .int .i64 v.ctor, .int .i64 v.n, .slice E v.kids.length ev] 69))) := HB2.out.alloc hsV _
      have HO1 : Hid (OneB (((wd).alloc (.cells #[] 69)).alloc (.cells #[.int .i64 p.var, .int .i64 v.ctor, .int .i64 v.n, .slice E v.kids.length ev] 69)) wx.heap.size (wd.heap.size + 1) p.var v E ev) := by have h := OneB.new _ hsV p.var v E ev; rw [World.size_alloc] at h; exact h
      have HE' : Hid (OBr e' (((wd).alloc (.cells #[] 69)).alloc (.cells #[.int .i64 p.var, .int .i64 v.ctor, .int .i64 v.n, .slice E v.kids.length ev] 69)) wx.heap.size B (.slice (some ⟨(wd).heap.size, 0, none⟩) 0 0) []) := HE.out.at_ ((Below.refl _ _).alloc (Nat.le_refl _) _) (by omega)
      go_simp
      refine hK _ _ (fun _ => HKS.out _ HB3.out) ?_
      clear hK K
      refine Till.all (rs := [2]) (by kernel_rfl) (by decide) (List.forall_mem_cons.2 ⟨?_, fun _ h => nomatch h⟩)
      refine Till.step rfl (by rfl) ?_
      intro K hK
      have hsU : wx.heap.size ≤ (((wd).alloc (.cells #[] 69)).alloc (.cells #[.int .i64 p.var, .int .i64 v.ctor, .int .i64 v.n, .slice E v.kids.length ev] 69)).heap.size := HB3.out.size
      have HU2 : Hid (OBr e' (((wd).alloc (.cells #[] 69)).alloc (.cells #[.int .i64 p.var, .int .i64 v.ctor, .int .i64 v.n, .slice E v.kids.length ev] 69)) 0 B u L) := HU.out.at_ (below_aft hbx HB3.out hbx.size) hB
      refine wp_app_out (.tmp 20) (.tmp 21) (by rfl) (by rfl) HE'.out (by rfl) HU2.out (by omega) hsU (by omega) ?_
      intro u2 w2 hO2 hgr2 hb2
      have HB2 : Hid (Below wx.heap.size wx w2) := HB3.out.trans hb2
      have HO2 := Lib.hid hO2
      have HO3 : Hid (OneB w2 wx.heap.size (wd.heap.size + 1) p.var v E ev) := HO1.out.grown hgr2 (by simp [Value.ownBlock])
      clear hO2 hgr2 hb2
      refine hK _ _ (fun _ => HKS.out _ HB2.out) ?_
      clear hK K
      refine Till.all (rs := [8]) (by kernel_rfl) (by decide) (List.forall_mem_cons.2 ⟨?_, fun _ h => nomatch h⟩)
      refine Till.step rfl (by rfl) ?_
      intro K hK
      have hsT : wx.heap.size ≤ (w2).heap.size := HB2.out.size
      have HVT : Hid (RVs e' (w2) B E v.kids) := HV.out.keep (fun q hq => (below_aft hbx HB2.out hbx.size).cell (p := q) (by omega)) (Nat.le_refl _)
      refine wp_app_one (.tmp 22) (.tmp 27) (by rfl) (by rfl) HO2.out (by rfl) HO3.out HVT.out (by omega) hsT (by omega) ?_
      intro u6 w6 hO6 hb6
      have HB6 : Hid (Below wx.heap.size wx w6) := HB2.out.trans hb6
      have HO6 := Lib.hid hO6
      clear hO6 hb6
      refine hK _ _ (fun _ => HKS.out _ HB6.out) ?_
      clear hK K
      clear HVT hsT
      refine Till.all (rs := [9]) (by kernel_rfl) (by decide) (List.forall_mem_cons.2 ⟨?_, fun _ h => nomatch h⟩)
      refine Till.step rfl (by rfl) ?_
      intro K hK
      go_simp
      refine hK _ _ (fun _ => HKS.out _ HB6.out) ?_
      clear hK K
      refine Till.all (rs := [10]) (by kernel_rfl) (by decide) (List.forall_mem_cons.2 ⟨?_, fun _ h => nomatch h⟩)
      refine Till.step rfl (by rfl) ?_
      intro K hK
      go_simp
      refine hK _ _ (fun h => absurd rfl h) ?_
      clear hK K
      refine Till.done (by kernel_rfl) ?_ _
      have hbw := below_aft hbx HB6.out hbx.size
      go_wp2_with fail
      go_ret2
      exact MsQ.yes HM.out (HO6.out.lower (Nat.zero_le _)) (by simp) hbw
  · refine Till.step rfl (by rfl) ?_
    intro K hK
    have hsV : wx.heap.size ≤ (wd).heap.size := HBX.out.size
    have HB2 : Hid (Below wx.heap.size wx ((wd).alloc (.cells #[.int .i64 p.var, .int .i64 v.ctor, .int .i64 v.n, .slice E v.kids.length ev] 69))) := HBX.out.alloc hsV _
    have HO1 : Hid (OneB ((wd).alloc (.cells #[.int .i64 p.var, .int .i64 v.ctor, .int .i64 v.n, .slice E v.kids.length ev] 69)) wx.heap.size ((wd).heap.size) p.var v E ev) := OneB.new _ hsV p.var v E ev
    go_simp
    refine hK _ _ (fun _ => HKS.out _ HB2.out) ?_
    clear hK K
    refine Till.all (rs := [0]) (by kernel_rfl) (by decide) (List.forall_mem_cons.2 ⟨?_, fun _ h => nomatch h⟩)
    refine Till.step rfl (by rfl) ?_
    intro K hK
    have hsW : wx.heap.size ≤ ((wd).alloc (.cells #[.int .i64 p.var, .int .i64 v.ctor, .int .i64 v.n, .slice E v.kids.length ev] 69)).heap.size := HB2.out.size
    have HB2 : Hid (Below wx.heap.size wx (((wd).alloc (.cells #[.int .i64 p.var, .int .i64 v.ctor, .int .i64 v.n, .slice E v.kids.length ev] 69)).alloc (.cells #[] 69))) := HB2.out.alloc hsW _
    have HE : Hid (OBr e' (((wd).alloc (.cells #[.int .i64 p.var, .int .i64 v.ctor, .int .i64 v.n, .slice E v.kids.length ev] 69)).alloc (.cells #[] 69)) wx.heap.size B (.slice (some ⟨wd.heap.size + 1, 0, none⟩) 0 0) []) := by have h := OBr.new0 (e' := e') (B := B) _ hsW; rw [World.size_alloc] at h; exact h
    go_simp
    refine hK _ _ (fun _ => HKS.out _ HB2.out) ?_
    clear hK K
    have HO3 : Hid (OneB (((wd).alloc (.cells #[.int .i64 p.var, .int .i64 v.ctor, .int .i64 v.n, .slice E v.kids.length ev] 69)).alloc (.cells #[] 69)) wx.heap.size (wd).heap.size p.var v E ev) := HO1.out.alloc _
    refine Till.all (rs := [2]) (by kernel_rfl) (by decide) (List.forall_mem_cons.2 ⟨?_, fun _ h => nomatch h⟩)
    refine Till.step rfl (by rfl) ?_
    intro K hK
    have hsU : wx.heap.size ≤ (((wd).alloc (.cells #[.int .i64 p.var, .int .i64 v.ctor, .int .i64 v.n, .slice E v.kids.length ev] 69)).alloc (.cells #[] 69)).heap.size := HB2.out.size
    have HU2 : Hid (OBr e' (((wd).alloc (.cells #[.int .i64 p.var, .int .i64 v.ctor, .int .i64 v.n, .slice E v.kids.length ev] 69)).alloc (.cells #[] 69)) 0 B u L) := HU.out.at_ (below_aft hbx HB2.out hbx.size) hB
    refine wp_app_out (.tmp 20) (.tmp 21) (by rfl) (by rfl) HE.out (by rfl) HU2.out (by omega) hsU (by omega) ?_
    intro u2 w2 hO2 hgr2 hb2
    have HB2 : Hid (Below wx.heap.size wx w2) := HB2.out.trans hb2
    have HO2 := Lib.hid hO2
    have HO4 : Hid (OneB w2 wx.heap.size (wd).heap.size p.var v E ev) := HO3.out.grown hgr2 (by simp [Value.ownBlock])
    clear hO2 hgr2 hb2
    refine hK _ _ (fun _ => HKS.out _ HB2.out) ?_
    clear hK K
    refine Till.all (rs := [8]) (by kernel_rfl) (by decide) (List.forall_mem_cons.2 ⟨?_, fun _ h => nomatch h⟩)
    refine Till.step rfl (by rfl) ?_
    intro K hK
    have hsT : wx.heap.size ≤ (w2).heap.size := HB2.out.size
    have HVT : Hid (RVs e' (w2) B E v.kids) := HV.out.keep (fun q hq => (below_aft hbx HB2.out hbx.size).cell (p := q) (by omega)) (Nat.le_refl _)
    refine wp_app_one (.tmp 22) (.tmp 27) (by rfl) (by rfl) HO2.out (by rfl) HO4.out HVT.out (by omega) hsT (by omega) ?_
    intro u6 w6 hO6 hb6
    have HB6 : Hid (Below wx.heap.size wx w6) := HB2.out.trans hb6
    have HO6 := Lib.hid hO6
    clear hO6 hb6
    refine hK _ _ (fun _ => HKS.out _ HB6.out) ?_
    clear hK K
    clear HVT hsT
    refine Till.all (rs := [9]) (by kernel_rfl) (by decide) (List.forall_mem_cons.2 ⟨?_, fun _ h => nomatch h⟩)
    refine Till.step rfl (by rfl) ?_
    intro K hK
    go_simp
    refine hK _ _ (fun _ => HKS.out _ HB6.out) ?_
    clear hK K
    refine Till.all (rs := [10]) (by kernel_rfl) (by decide) (List.forall_mem_cons.2 ⟨?_, fun _ h => nomatch h⟩)
    refine Till.step rfl (by rfl) ?_
    intro K hK
    go_simp
    refine hK _ _ (fun h => absurd rfl h) ?_
    clear hK K
    refine Till.done (by kernel_rfl) ?_ _
    have hbw := below_aft hbx HB6.out hbx.size
    go_wp2_with fail
    go_ret2
    exact MsQ.yes HM.out (HO6.out.lower (Nat.zero_le _)) (by simp) hbw
set_option maxHeartbeats 4000000 in
theorem ms_3a (l : List Da) (d : Nat) (ih : MsC l d) (n e e' B : Nat) (D E : Option Addr) (ep ev : Nat) (t : Ty) (p : Pt) (v : Vl) (u : Value) (L : List Bn) (w : World) (hs : shP l (d + 1) t p = true) (hf : fitV l n t v = true) (hp : RPs e w B D p.kids) (hv : RVs e' w B E v.kids) (hB : B ≤ w.heap.size) (hu : OBr e' w 0 B u L) (hN : L.length + 1 + wP p ≤ 900) (h1 : p.n ≤ v.n) (h2 : v.n ≤ p.m) (hop : p.op = 3) :
    Calls Try.prog 77 #[u, .agg #[.int .i64 p.op, .int .i64 p.ctor, .int .i64 p.n, .int .i64 p.m, .int .i64 p.var, .slice D p.kids.length ep], .agg #[.int .i64 v.ctor, .int .i64 v.n, .slice E v.kids.length ev]] w (MsQ e' B (1 + wP p) L (mtS (d + 1) p v) w) := by
  have hl := hp.1
  have hlv := hv.1
  unfold maxLen at hl hlv
  have HP := Lib.hid hp
  have HV := Lib.hid hv
  have HF := Lib.hid hf
  have IH := Lib.hid ih
  have HU := Lib.hid hu
  have u1 : (p.op == 1) = false := ieq_f (by omega)
  have u2 : (p.op == 2) = false := ieq_f (by omega)
  have u3 := ieq_t hop
  have u4 : (p.op == 4) = false := ieq_f (by omega)
  have u5 : (p.op == 5) = false := ieq_f (by omega)
  have u6 : (p.op == 6) = false := ieq_f (by omega)
  have q1 : decide (p.n ≤ v.n) = true := decide_eq_true h1
  have q2 : decide (v.n ≤ p.m) = true := decide_eq_true h2
  have HM := Lib.hid (mtS_in (d := d) (p := p) (v := v) hop h1 h2)
  clear h1 h2
  generalize hwx : (w.alloc (.cells #[.int .i64 p.op, .int .i64 p.ctor, .int .i64 p.n, .int .i64 p.m, .int .i64 p.var, .slice D p.kids.length ep] 50)).alloc (.cells #[.int .i64 v.ctor, .int .i64 v.n, .slice E v.kids.length ev] 28) = wx
  have hbx : Below w.heap.size w wx := below_box2 hwx
  have hsx : w.heap.size + 2 ≤ wx.heap.size := by rw [← hwx]; simp
  have HXP : Hid (PBx wx w.heap.size p (.slice D p.kids.length ep)) := by rw [← hwx]; exact ⟨by simp [go_sem], by simp [go_sem], by simp [go_sem], by simp [go_sem], by simp [go_sem], by simp [go_sem]⟩
  have HXV : Hid (VBx wx (w.heap.size + 1) v.ctor v.n (.slice E v.kids.length ev)) := by rw [← hwx]; exact ⟨by simp [go_sem], by simp [go_sem], by simp [go_sem]⟩
  have HW := Lib.hid hwx
  clear hs hf hp hv ih hop hwx hu
  obtain ⟨y0, y1, y2, y3, y4, y5⟩ := HXP.out
  obtain ⟨z0, z1, z2⟩ := HXV.out
  go_enter Try.func77, Try.ntmps77
  go_wp2_with fail
  rw [HW.out]
  have g0 := cell_regrown y2
  have g1 := cell_regrown y3
  have g2 := cell_regrown z1
  refine wp_region_quiet_below (by kernel_rfl) (by kernel_rfl) ?_
  repeat (quiet_step (fail))
  refine wpQuiet_nil ?_
  intro w2 hw'
  have hb2 : Below wx.heap.size wx w2 := by obtain ⟨⟨dq, osq⟩, h⟩ := hw'; subst h; exact below_regrown wx dq osq
  have hbw := below_aft hbx hb2 hbx.size
  clear hw' g0 g1 g2
  go_wp2_with fail
  go_ret2
  exact MsQ.yes (L0 := []) HM.out (by rw [List.append_nil]; exact HU.out.at_ hbw hB) (by simp) hbw
set_option maxHeartbeats 4000000 in
theorem ms_3b (l : List Da) (d : Nat) (ih : MsC l d) (n e e' B : Nat) (D E : Option Addr) (ep ev : Nat) (t : Ty) (p : Pt) (v : Vl) (u : Value) (L : List Bn) (w : World) (hs : shP l (d + 1) t p = true) (hf : fitV l n t v = true) (hp : RPs e w B D p.kids) (hv : RVs e' w B E v.kids) (hB : B ≤ w.heap.size) (hu : OBr e' w 0 B u L) (hN : L.length + 1 + wP p ≤ 900) (h1 : ¬ p.n ≤ v.n) (hop : p.op = 3) :
    Calls Try.prog 77 #[u, .agg #[.int .i64 p.op, .int .i64 p.ctor, .int .i64 p.n, .int .i64 p.m, .int .i64 p.var, .slice D p.kids.length ep], .agg #[.int .i64 v.ctor, .int .i64 v.n, .slice E v.kids.length ev]] w (MsQ e' B (1 + wP p) L (mtS (d + 1) p v) w) := by
  have hl := hp.1
  have hlv := hv.1
  unfold maxLen at hl hlv
  have HP := Lib.hid hp
  have HV := Lib.hid hv
  have HF := Lib.hid hf
  have IH := Lib.hid ih
  have HU := Lib.hid hu
  have u1 : (p.op == 1) = false := ieq_f (by omega)
  have u2 : (p.op == 2) = false := ieq_f (by omega)
  have u3 := ieq_t hop
  have u4 : (p.op == 4) = false := ieq_f (by omega)
  have u5 : (p.op == 5) = false := ieq_f (by omega)
  have u6 : (p.op == 6) = false := ieq_f (by omega)
  have q1 : decide (p.n ≤ v.n) = false := decide_eq_false h1
  have HM := Lib.hid (mtS_out (d := d) (p := p) (v := v) hop (fun h => h1 h.1))
  clear h1
  generalize hwx : (w.alloc (.cells #[.int .i64 p.op, .int .i64 p.ctor, .int .i64 p.n, .int .i64 p.m, .int .i64 p.var, .slice D p.kids.length ep] 50)).alloc (.cells #[.int .i64 v.ctor, .int .i64 v.n, .slice E v.kids.length ev] 28) = wx
  have hbx : Below w.heap.size w wx := below_box2 hwx
  have hsx : w.heap.size + 2 ≤ wx.heap.size := by rw [← hwx]; simp
  have HXP : Hid (PBx wx w.heap.size p (.slice D p.kids.length ep)) := by rw [← hwx]; exact ⟨by simp [go_sem], by simp [go_sem], by simp [go_sem], by simp [go_sem], by simp [go_sem], by simp [go_sem]⟩
  have HXV : Hid (VBx wx (w.heap.size + 1) v.ctor v.n (.slice E v.kids.length ev)) := by rw [← hwx]; exact ⟨by simp [go_sem], by simp [go_sem], by simp [go_sem]⟩
  have HW := Lib.hid hwx
  clear hs hf hp hv ih hop hwx hu
  obtain ⟨y0, y1, y2, y3, y4, y5⟩ := HXP.out
  obtain ⟨z0, z1, z2⟩ := HXV.out
  go_enter Try.func77, Try.ntmps77
  go_wp2_with fail
  rw [HW.out]
  have g0 := cell_regrown y2
  have g1 := cell_regrown y3
  have g2 := cell_regrown z1
  refine wp_region_quiet_below (by kernel_rfl) (by kernel_rfl) ?_
  repeat (quiet_step (fail))
  refine wpQuiet_nil ?_
  intro w2 hw'
  have hb2 : Below wx.heap.size wx w2 := by obtain ⟨⟨dq, osq⟩, h⟩ := hw'; subst h; exact below_regrown wx dq osq
  have hbw := below_aft hbx hb2 hbx.size
  clear hw' g0 g1 g2
  go_wp2_with fail
  go_ret2
  exact MsQ.no HM.out ⟨L, HU.out.at_ hbw hB⟩ hbw
set_option maxHeartbeats 4000000 in
theorem ms_3c (l : List Da) (d : Nat) (ih : MsC l d) (n e e' B : Nat) (D E : Option Addr) (ep ev : Nat) (t : Ty) (p : Pt) (v : Vl) (u : Value) (L : List Bn) (w : World) (hs : shP l (d + 1) t p = true) (hf : fitV l n t v = true) (hp : RPs e w B D p.kids) (hv : RVs e' w B E v.kids) (hB : B ≤ w.heap.size) (hu : OBr e' w 0 B u L) (hN : L.length + 1 + wP p ≤ 900) (h1 : p.n ≤ v.n) (h2 : ¬ v.n ≤ p.m) (hop : p.op = 3) :
    Calls Try.prog 77 #[u, .agg #[.int .i64 p.op, .int .i64 p.ctor, .int .i64 p.n, .int .i64 p.m, .int .i64 p.var, .slice D p.kids.length ep], .agg #[.int .i64 v.ctor, .int .i64 v.n, .slice E v.kids.length ev]] w (MsQ e' B (1 + wP p) L (mtS (d + 1) p v) w) := by
  have hl := hp.1
  have hlv := hv.1
  unfold maxLen at hl hlv
  have HP := Lib.hid hp
  have HV := Lib.hid hv
  have HF := Lib.hid hf
  have IH := Lib.hid ih
  have HU := Lib.hid hu
  have u1 : (p.op == 1) = false := ieq_f (by omega)
  have u2 : (p.op == 2) = false := ieq_f (by omega)
  have u3 := ieq_t hop
  have u4 : (p.op == 4) = false := ieq_f (by omega)
  have u5 : (p.op == 5) = false := ieq_f (by omega)
  have u6 : (p.op == 6) = false := ieq_f (by omega)
  have q1 : decide (p.n ≤ v.n) = true := decide_eq_true h1
  have q2 : decide (v.n ≤ p.m) = false := decide_eq_false h2
  have HM := Lib.hid (mtS_out (d := d) (p := p) (v := v) hop (fun h => h2 h.2))
  clear h1 h2
  generalize hwx : (w.alloc (.cells #[.int .i64 p.op, .int .i64 p.ctor, .int .i64 p.n, .int .i64 p.m, .int .i64 p.var, .slice D p.kids.length ep] 50)).alloc (.cells #[.int .i64 v.ctor, .int .i64 v.n, .slice E v.kids.length ev] 28) = wx
  have hbx : Below w.heap.size w wx := below_box2 hwx
  have hsx : w.heap.size + 2 ≤ wx.heap.size := by rw [← hwx]; simp
  have HXP : Hid (PBx wx w.heap.size p (.slice D p.kids.length ep)) := by rw [← hwx]; exact ⟨by simp [go_sem], by simp [go_sem], by simp [go_sem], by simp [go_sem], by simp [go_sem], by simp [go_sem]⟩
  have HXV : Hid (VBx wx (w.heap.size + 1) v.ctor v.n (.slice E v.kids.length ev)) := by rw [← hwx]; exact ⟨by simp [go_sem], by simp [go_sem], by simp [go_sem]⟩
  have HW := Lib.hid hwx
  clear hs hf hp hv ih hop hwx hu
  obtain ⟨y0, y1, y2, y3, y4, y5⟩ := HXP.out
  obtain ⟨z0, z1, z2⟩ := HXV.out
  go_enter Try.func77, Try.ntmps77
  go_wp2_with fail
  rw [HW.out]
  have g0 := cell_regrown y2
  have g1 := cell_regrown y3
  have g2 := cell_regrown z1
  refine wp_region_quiet_below (by kernel_rfl) (by kernel_rfl) ?_
  repeat (quiet_step (fail))
  refine wpQuiet_nil ?_
  intro w2 hw'
  have hb2 : Below wx.heap.size wx w2 := by obtain ⟨⟨dq, osq⟩, h⟩ := hw'; subst h; exact below_regrown wx dq osq
  have hbw := below_aft hbx hb2 hbx.size
  clear hw' g0 g1 g2
  go_wp2_with fail
  go_ret2
  exact MsQ.no HM.out ⟨L, HU.out.at_ hbw hB⟩ hbw
set_option maxHeartbeats 4000000 in
theorem ms_40 (l : List Da) (d : Nat) (ih : MsC l d) (n e e' B : Nat) (D E : Option Addr) (ep ev : Nat) (t : Ty) (p : Pt) (v : Vl) (u : Value) (L : List Bn) (w : World) (hs : shP l (d + 1) t p = true) (hf : fitV l n t v = true) (hp : RPs e w B D p.kids) (hv : RVs e' w B E v.kids) (hB : B ≤ w.heap.size) (hu : OBr e' w 0 B u L) (hN : L.length + 1 + wP p ≤ 900) (h1 : ¬ p.ctor = v.ctor) (hop : p.op = 4) :
    Calls Try.prog 77 #[u, .agg #[.int .i64 p.op, .int .i64 p.ctor, .int .i64 p.n, .int .i64 p.m, .int .i64 p.var, .slice D p.kids.length ep], .agg #[.int .i64 v.ctor, .int .i64 v.n, .slice E v.kids.length ev]] w (MsQ e' B (1 + wP p) L (mtS (d + 1) p v) w) := by
  have hl := hp.1
  have hlv := hv.1
  unfold maxLen at hl hlv
  have HP := Lib.hid hp
  have HV := Lib.hid hv
  have HF := Lib.hid hf
  have IH := Lib.hid ih
  have HU := Lib.hid hu
  have u1 : (p.op == 1) = false := ieq_f (by omega)
  have u2 : (p.op == 2) = false := ieq_f (by omega)
  have u3 : (p.op == 3) = false := ieq_f (by omega)
  have u4 := ieq_t hop
  have u5 : (p.op == 5) = false := ieq_f (by omega)
  have u6 : (p.op == 6) = false := ieq_f (by omega)
  have q1 : (v.ctor != p.ctor) = true := by simpa using fun e : v.ctor = p.ctor => h1 e.symm
  have HM := Lib.hid (mtS_other (d := d) (p := p) (v := v) hop h1)
  clear h1
  generalize hwx : (w.alloc (.cells #[.int .i64 p.op, .int .i64 p.ctor, .int .i64 p.n, .int .i64 p.m, .int .i64 p.var, .slice D p.kids.length ep] 50)).alloc (.cells #[.int .i64 v.ctor, .int .i64 v.n, .slice E v.kids.length ev] 28) = wx
  have hbx : Below w.heap.size w wx := below_box2 hwx
  have hsx : w.heap.size + 2 ≤ wx.heap.size := by rw [← hwx]; simp
  have HXP : Hid (PBx wx w.heap.size p (.slice D p.kids.length ep)) := by rw [← hwx]; exact ⟨by simp [go_sem], by simp [go_sem], by simp [go_sem], by simp [go_sem], by simp [go_sem], by simp [go_sem]⟩
  have HXV : Hid (VBx wx (w.heap.size + 1) v.ctor v.n (.slice E v.kids.length ev)) := by rw [← hwx]; exact ⟨by simp [go_sem], by simp [go_sem], by simp [go_sem]⟩
  have HW := Lib.hid hwx
  clear hs hf hp hv ih hop hwx hu
  obtain ⟨y0, y1, y2, y3, y4, y5⟩ := HXP.out
  obtain ⟨z0, z1, z2⟩ := HXV.out
  go_enter Try.func77, Try.ntmps77
  go_wp2_with fail
  rw [HW.out]
  go_ret2
  exact MsQ.no HM.out ⟨L, HU.out.at_ hbx hB⟩ hbx
set_option maxHeartbeats 4000000 in
theorem ms_50 (l : List Da) (d : Nat) (ih : MsC l d) (L0 : List Bn) (n e e' B : Nat) (D E : Option Addr) (ep ev : Nat) (t : Ty) (p : Pt) (v : Vl) (u : Value) (L : List Bn) (w : World) (hs : shP l (d + 1) t p = true) (hf : fitV l n t v = true) (hp : RPs e w B D p.kids) (hv : RVs e' w B E v.kids) (hB : B ≤ w.heap.size) (hu : OBr e' w 0 B u L) (hN : L.length + 1 + wP p ≤ 900) (hq0 : mtS d (p.kids.getD 0 default) v = some L0) (hop : p.op = 5) :
    Calls Try.prog 77 #[u, .agg #[.int .i64 p.op, .int .i64 p.ctor, .int .i64 p.n, .int .i64 p.m, .int .i64 p.var, .slice D p.kids.length ep], .agg #[.int .i64 v.ctor, .int .i64 v.n, .slice E v.kids.length ev]] w (MsQ e' B (1 + wP p) L (mtS (d + 1) p v) w) := by
  have hl := hp.1
  have hlv := hv.1
  unfold maxLen at hl hlv
  have HP := Lib.hid hp
  have HV := Lib.hid hv
  have HF := Lib.hid hf
  have IH := Lib.hid ih
  have HU := Lib.hid hu
  have u1 : (p.op == 1) = false := ieq_f (by omega)
  have u2 : (p.op == 2) = false := ieq_f (by omega)
  have u3 : (p.op == 3) = false := ieq_f (by omega)
  have u4 : (p.op == 4) = false := ieq_f (by omega)
  have u5 := ieq_t hop
  have u6 : (p.op == 6) = false := ieq_f (by omega)
  obtain ⟨hk2, hs0, hs1⟩ := or_partsP hs hop
  have h0k : 0 < p.kids.length := by omega
  have h1k : 1 < p.kids.length := by omega
  have HS0 := Lib.hid (hs0 h0k)
  have HS1 := Lib.hid (hs1 h1k)
  have hi0 : (0 : Int) < (p.kids.length : Int) := by omega
  have hi1 : (1 : Int) < (p.kids.length : Int) := by omega
  clear hk2 hs0 hs1
  have hq : mtS d p.kids[0] v = some L0 := by rw [← getD_kid h0k]; exact hq0
  clear hq0
  have HM := Lib.hid (mtS_or0 (d := d) hop h0k hq)
  have HQ := Lib.hid hq
  clear hq
  generalize hwx : (w.alloc (.cells #[.int .i64 p.op, .int .i64 p.ctor, .int .i64 p.n, .int .i64 p.m, .int .i64 p.var, .slice D p.kids.length ep] 50)).alloc (.cells #[.int .i64 v.ctor, .int .i64 v.n, .slice E v.kids.length ev] 28) = wx
  have hbx : Below w.heap.size w wx := below_box2 hwx
  have hsx : w.heap.size + 2 ≤ wx.heap.size := by rw [← hwx]; simp
  have HXP : Hid (PBx wx w.heap.size p (.slice D p.kids.length ep)) := by rw [← hwx]; exact ⟨by simp [go_sem], by simp [go_sem], by simp [go_sem], by simp [go_sem], by simp [go_sem], by simp [go_sem]⟩
  have HXV : Hid (VBx wx (w.heap.size + 1) v.ctor v.n (.slice E v.kids.length ev)) := by rw [← hwx]; exact ⟨by simp [go_sem], by simp [go_sem], by simp [go_sem]⟩
  have HW := Lib.hid hwx
  clear hs hf hp hv ih hop hwx hu
  obtain ⟨y0, y1, y2, y3, y4, y5⟩ := HXP.out
  obtain ⟨z0, z1, z2⟩ := HXV.out
  clear y0 y1 y2 y3 y4 y5
  obtain ⟨b, off, rfl, hbB, hvk⟩ := (HP.out.keep (w' := wx) (fun q hq => hbx.cell (p := q) (by omega)) (Nat.le_refl _)).2 0 h0k
  obtain ⟨b2, off2, e2, hbB2, hvk2⟩ := (HP.out.keep (w' := wx) (fun q hq => hbx.cell (p := q) (by omega)) (Nat.le_refl _)).2 1 h1k
  cases e2
  rw [show off + 0 * 6 = off by omega] at hvk
  rw [show off + 1 * 6 = off + 6 by omega] at hvk2
  obtain ⟨e4, he4, D4, cp4, c0, c1, c2, c3, c4, c5, hm4⟩ := hvk.parts
  obtain ⟨e5, he5, D5, cp5, d0, d1, d2, d3, d4, d5, hm5⟩ := hvk2.parts
  obtain ⟨y0, y1, y2, y3, y4, y5⟩ := HXP.out
  have HKS : Hid (∀ W, Below wx.heap.size wx W → W.cell? ⟨w.heap.size, 4, none⟩ = some (.int .i64 p.var) ∧ W.cell? ⟨w.heap.size + 1, 0, none⟩ = some (.int .i64 v.ctor) ∧ W.cell? ⟨w.heap.size + 1, 1, none⟩ = some (.int .i64 v.n) ∧ W.cell? ⟨w.heap.size + 1, 2, none⟩ = some (.slice E v.kids.length ev) ∧ W.cell? ⟨w.heap.size, 5, none⟩ = some (.slice (some ⟨b, off, none⟩) p.kids.length ep) ∧ W.cell? ⟨b, off, none⟩ = some (.int .i64 p.kids[0].op) ∧ W.cell? ⟨b, off + 1, none⟩ = some (.int .i64 p.kids[0].ctor) ∧ W.cell? ⟨b, off + 2, none⟩ = some (.int .i64 p.kids[0].n) ∧ W.cell? ⟨b, off + 3, none⟩ = some (.int .i64 p.kids[0].m) ∧ W.cell? ⟨b, off + 4, none⟩ = some (.int .i64 p.kids[0].var) ∧ W.cell? ⟨b, off + 5, none⟩ = some (.slice D4 p.kids[0].kids.length cp4) ∧ W.cell? ⟨b, off + 6, none⟩ = some (.int .i64 p.kids[1].op) ∧ W.cell? ⟨b, off + 7, none⟩ = some (.int .i64 p.kids[1].ctor) ∧ W.cell? ⟨b, off + 8, none⟩ = some (.int .i64 p.kids[1].n) ∧ W.cell? ⟨b, off + 9, none⟩ = some (.int .i64 p.kids[1].m) ∧ W.cell? ⟨b, off + 10, none⟩ = some (.int .i64 p.kids[1].var) ∧ W.cell? ⟨b, off + 11, none⟩ = some (.slice D5 p.kids[1].kids.length cp5)) := fun W h => ⟨(h.cell (p := ⟨w.heap.size, 4, none⟩) (Go.block_lt_of_cell y4)).trans y4, (h.cell (p := ⟨w.heap.size + 1, 0, none⟩) (Go.block_lt_of_cell z0)).trans z0, (h.cell (p := ⟨w.heap.size + 1, 1, none⟩) (Go.block_lt_of_cell z1)).trans z1, (h.cell (p := ⟨w.heap.size + 1, 2, none⟩) (Go.block_lt_of_cell z2)).trans z2, (h.cell (p := ⟨w.heap.size, 5, none⟩) (Go.block_lt_of_cell y5)).trans y5, (h.cell (p := ⟨b, off, none⟩) (Go.block_lt_of_cell c0)).trans c0, (h.cell (p := ⟨b, off + 1, none⟩) (Go.block_lt_of_cell c1)).trans c1, (h.cell (p := ⟨b, off + 2, none⟩) (Go.block_lt_of_cell c2)).trans c2, (h.cell (p := ⟨b, off + 3, none⟩) (Go.block_lt_of_cell c3)).trans c3, (h.cell (p := ⟨b, off + 4, none⟩) (Go.block_lt_of_cell c4)).trans c4, (h.cell (p := ⟨b, off + 5, none⟩) (Go.block_lt_of_cell c5)).trans c5, (h.cell (p := ⟨b, off + 6, none⟩) (Go.block_lt_of_cell d0)).trans d0, (h.cell (p := ⟨b, off + 7, none⟩) (Go.block_lt_of_cell d1)).trans d1, (h.cell (p := ⟨b, off + 8, none⟩) (Go.block_lt_of_cell d2)).trans d2, (h.cell (p := ⟨b, off + 9, none⟩) (Go.block_lt_of_cell d3)).trans d3, (h.cell (p := ⟨b, off + 10, none⟩) (Go.block_lt_of_cell d4)).trans d4, (h.cell (p := ⟨b, off + 11, none⟩) (Go.block_lt_of_cell d5)).trans d5⟩
  have HC0 : Hid (∀ W, Below wx.heap.size wx W → Calls Try.prog 77 #[u, .agg #[.int .i64 p.kids[0].op, .int .i64 p.kids[0].ctor, .int .i64 p.kids[0].n, .int .i64 p.kids[0].m, .int .i64 p.kids[0].var, .slice D4 p.kids[0].kids.length cp4], .agg #[.int .i64 v.ctor, .int .i64 v.n, .slice E v.kids.length ev]] W (MsQ e' B (1 + wP p.kids[0]) L (mtS d p.kids[0] v) W)) := fun W h => IH.out n e4 e' B D4 E cp4 ev t p.kids[0] v u L W HS0.out HF.out (hm4.keep (fun q hq => h.cell (p := q) (by omega)) (Nat.le_refl _)) (HV.out.keep (fun q hq => (below_aft hbx h hbx.size).cell (p := q) (by omega)) (Nat.le_refl _)) (by have := h.size; omega) (HU.out.at_ (below_aft hbx h hbx.size) hB) (by have := wP_kid p 0 h0k; omega)
  have HC1 : Hid (∀ W, Below wx.heap.size wx W → Calls Try.prog 77 #[u, .agg #[.int .i64 p.kids[1].op, .int .i64 p.kids[1].ctor, .int .i64 p.kids[1].n, .int .i64 p.kids[1].m, .int .i64 p.kids[1].var, .slice D5 p.kids[1].kids.length cp5], .agg #[.int .i64 v.ctor, .int .i64 v.n, .slice E v.kids.length ev]] W (MsQ e' B (1 + wP p.kids[1]) L (mtS d p.kids[1] v) W)) := fun W h => IH.out n e5 e' B D5 E cp5 ev t p.kids[1] v u L W HS1.out HF.out (hm5.keep (fun q hq => h.cell (p := q) (by omega)) (Nat.le_refl _)) (HV.out.keep (fun q hq => (below_aft hbx h hbx.size).cell (p := q) (by omega)) (Nat.le_refl _)) (by have := h.size; omega) (HU.out.at_ (below_aft hbx h hbx.size) hB) (by have := wP_kid p 1 h1k; omega)
  have HW0 := Lib.hid (wP_kid p 0 h0k)
  have HW1 := Lib.hid (wP_kid p 1 h1k)
  have HBD : Hid (Below wx.heap.size wx wx.drew) := (Below.refl _ wx).drew
  have SQ := HKS.out wx.drew HBD.out
  clear c0 c1 c2 c3 c4 c5 d0 d1 d2 d3 d4 d5 hm4 hm5 hvk hvk2 he4 he5 y0 y1 y2 y3 y4 y5 z0 z1 z2
  rw [HQ.out] at HC0
  go_enter Try.func77, Try.ntmps77
  go_wp2_with fail
  rw [HW.out]
  go_region_held3 (fun w' => w'.cell? ⟨w.heap.size, 4, none⟩ = some (.int .i64 p.var) ∧ w'.cell? ⟨w.heap.size + 1, 0, none⟩ = some (.int .i64 v.ctor) ∧ w'.cell? ⟨w.heap.size + 1, 1, none⟩ = some (.int .i64 v.n) ∧ w'.cell? ⟨w.heap.size + 1, 2, none⟩ = some (.slice E v.kids.length ev) ∧ w'.cell? ⟨w.heap.size, 5, none⟩ = some (.slice (some ⟨b, off, none⟩) p.kids.length ep) ∧ w'.cell? ⟨b, off, none⟩ = some (.int .i64 p.kids[0].op) ∧ w'.cell? ⟨b, off + 1, none⟩ = some (.int .i64 p.kids[0].ctor) ∧ w'.cell? ⟨b, off + 2, none⟩ = some (.int .i64 p.kids[0].n) ∧ w'.cell? ⟨b, off + 3, none⟩ = some (.int .i64 p.kids[0].m) ∧ w'.cell? ⟨b, off + 4, none⟩ = some (.int .i64 p.kids[0].var) ∧ w'.cell? ⟨b, off + 5, none⟩ = some (.slice D4 p.kids[0].kids.length cp4) ∧ w'.cell? ⟨b, off + 6, none⟩ = some (.int .i64 p.kids[1].op) ∧ w'.cell? ⟨b, off + 7, none⟩ = some (.int .i64 p.kids[1].ctor) ∧ w'.cell? ⟨b, off + 8, none⟩ = some (.int .i64 p.kids[1].n) ∧ w'.cell? ⟨b, off + 9, none⟩ = some (.int .i64 p.kids[1].m) ∧ w'.cell? ⟨b, off + 10, none⟩ = some (.int .i64 p.kids[1].var) ∧ w'.cell? ⟨b, off + 11, none⟩ = some (.slice D5 p.kids[1].kids.length cp5)) (first | with_reducible exact SQ | go_keep) (first | (go_at_call 77; (with_reducible refine (HC0.out wx.drew HBD.out).mono ?_); intro e1 w1 hq1; obtain ⟨u9, rfl, ho, hn, hb'⟩ := hq1.some_; have hbq : Below wx.heap.size wx w1 := ⟨hb'.os, hb'.tape, hb'.output, hb'.size, hb'.block⟩; have SQ := HKS.out _ hbq; have HO := Lib.hid ho; have HN := Lib.hid hn; clear hq1 ho hn hb'))
  all_goals
    clear SQ
    have hbw := below_aft hbx hbq hbx.size
    go_wp2_with fail
    go_ret2
    exact MsQ.yes HM.out HO.out (by have := HN.out; have := HW0.out; omega) hbw
set_option maxHeartbeats 4000000 in
theorem ms_51 (l : List Da) (d : Nat) (ih : MsC l d) (n e e' B : Nat) (D E : Option Addr) (ep ev : Nat) (t : Ty) (p : Pt) (v : Vl) (u : Value) (L : List Bn) (w : World) (hs : shP l (d + 1) t p = true) (hf : fitV l n t v = true) (hp : RPs e w B D p.kids) (hv : RVs e' w B E v.kids) (hB : B ≤ w.heap.size) (hu : OBr e' w 0 B u L) (hN : L.length + 1 + wP p ≤ 900) (hq0 : mtS d (p.kids.getD 0 default) v = none) (hop : p.op = 5) :
    Calls Try.prog 77 #[u, .agg #[.int .i64 p.op, .int .i64 p.ctor, .int .i64 p.n, .int .i64 p.m, .int .i64 p.var, .slice D p.kids.length ep], .agg #[.int .i64 v.ctor, .int .i64 v.n, .slice E v.kids.length ev]] w (MsQ e' B (1 + wP p) L (mtS (d + 1) p v) w) := by
  have hl := hp.1
  have hlv := hv.1
  unfold maxLen at hl hlv
  have HP := Lib.hid hp
  have HV := Lib.hid hv
  have HF := Lib.hid hf
  have IH := Lib.hid ih
  have HU := Lib.hid hu
  have u1 : (p.op == 1) = false := ieq_f (by omega)
  have u2 : (p.op == 2) = false := ieq_f (by omega)
  have u3 : (p.op == 3) = false := ieq_f (by omega)
  have u4 : (p.op == 4) = false := ieq_f (by omega)
  have u5 := ieq_t hop
  have u6 : (p.op == 6) = false := ieq_f (by omega)
  obtain ⟨hk2, hs0, hs1⟩ := or_partsP hs hop
  have h0k : 0 < p.kids.length := by omega
  have h1k : 1 < p.kids.length := by omega
  have HS0 := Lib.hid (hs0 h0k)
  have HS1 := Lib.hid (hs1 h1k)
  have hi0 : (0 : Int) < (p.kids.length : Int) := by omega
  have hi1 : (1 : Int) < (p.kids.length : Int) := by omega
  clear hk2 hs0 hs1
  have hq : mtS d p.kids[0] v = none := by rw [← getD_kid h0k]; exact hq0
  clear hq0
  have HM := Lib.hid (mtS_or1 (d := d) hop h0k h1k hq)
  have HQ := Lib.hid hq
  clear hq
  generalize hwx : (w.alloc (.cells #[.int .i64 p.op, .int .i64 p.ctor, .int .i64 p.n, .int .i64 p.m, .int .i64 p.var, .slice D p.kids.length ep] 50)).alloc (.cells #[.int .i64 v.ctor, .int .i64 v.n, .slice E v.kids.length ev] 28) = wx
  have hbx : Below w.heap.size w wx := below_box2 hwx
  have hsx : w.heap.size + 2 ≤ wx.heap.size := by rw [← hwx]; simp
  have HXP : Hid (PBx wx w.heap.size p (.slice D p.kids.length ep)) := by rw [← hwx]; exact ⟨by simp [go_sem], by simp [go_sem], by simp [go_sem], by simp [go_sem], by simp [go_sem], by simp [go_sem]⟩
  have HXV : Hid (VBx wx (w.heap.size + 1) v.ctor v.n (.slice E v.kids.length ev)) := by rw [← hwx]; exact ⟨by simp [go_sem], by simp [go_sem], by simp [go_sem]⟩
  have HW := Lib.hid hwx
  clear hs hf hp hv ih hop hwx hu
  obtain ⟨y0, y1, y2, y3, y4, y5⟩ := HXP.out
  obtain ⟨z0, z1, z2⟩ := HXV.out
  clear y0 y1 y2 y3 y4 y5
  obtain ⟨b, off, rfl, hbB, hvk⟩ := (HP.out.keep (w' := wx) (fun q hq => hbx.cell (p := q) (by omega)) (Nat.le_refl _)).2 0 h0k
  obtain ⟨b2, off2, e2, hbB2, hvk2⟩ := (HP.out.keep (w' := wx) (fun q hq => hbx.cell (p := q) (by omega)) (Nat.le_refl _)).2 1 h1k
  cases e2
  rw [show off + 0 * 6 = off by omega] at hvk
  rw [show off + 1 * 6 = off + 6 by omega] at hvk2
  obtain ⟨e4, he4, D4, cp4, c0, c1, c2, c3, c4, c5, hm4⟩ := hvk.parts
  obtain ⟨e5, he5, D5, cp5, d0, d1, d2, d3, d4, d5, hm5⟩ := hvk2.parts
  obtain ⟨y0, y1, y2, y3, y4, y5⟩ := HXP.out
  have HKS : Hid (∀ W, Below wx.heap.size wx W → W.cell? ⟨w.heap.size, 4, none⟩ = some (.int .i64 p.var) ∧ W.cell? ⟨w.heap.size + 1, 0, none⟩ = some (.int .i64 v.ctor) ∧ W.cell? ⟨w.heap.size + 1, 1, none⟩ = some (.int .i64 v.n) ∧ W.cell? ⟨w.heap.size + 1, 2, none⟩ = some (.slice E v.kids.length ev) ∧ W.cell? ⟨w.heap.size, 5, none⟩ = some (.slice (some ⟨b, off, none⟩) p.kids.length ep) ∧ W.cell? ⟨b, off, none⟩ = some (.int .i64 p.kids[0].op) ∧ W.cell? ⟨b, off + 1, none⟩ = some (.int .i64 p.kids[0].ctor) ∧ W.cell? ⟨b, off + 2, none⟩ = some (.int .i64 p.kids[0].n) ∧ W.cell? ⟨b, off + 3, none⟩ = some (.int .i64 p.kids[0].m) ∧ W.cell? ⟨b, off + 4, none⟩ = some (.int .i64 p.kids[0].var) ∧ W.cell? ⟨b, off + 5, none⟩ = some (.slice D4 p.kids[0].kids.length cp4) ∧ W.cell? ⟨b, off + 6, none⟩ = some (.int .i64 p.kids[1].op) ∧ W.cell? ⟨b, off + 7, none⟩ = some (.int .i64 p.kids[1].ctor) ∧ W.cell? ⟨b, off + 8, none⟩ = some (.int .i64 p.kids[1].n) ∧ W.cell? ⟨b, off + 9, none⟩ = some (.int .i64 p.kids[1].m) ∧ W.cell? ⟨b, off + 10, none⟩ = some (.int .i64 p.kids[1].var) ∧ W.cell? ⟨b, off + 11, none⟩ = some (.slice D5 p.kids[1].kids.length cp5)) := fun W h => ⟨(h.cell (p := ⟨w.heap.size, 4, none⟩) (Go.block_lt_of_cell y4)).trans y4, (h.cell (p := ⟨w.heap.size + 1, 0, none⟩) (Go.block_lt_of_cell z0)).trans z0, (h.cell (p := ⟨w.heap.size + 1, 1, none⟩) (Go.block_lt_of_cell z1)).trans z1, (h.cell (p := ⟨w.heap.size + 1, 2, none⟩) (Go.block_lt_of_cell z2)).trans z2, (h.cell (p := ⟨w.heap.size, 5, none⟩) (Go.block_lt_of_cell y5)).trans y5, (h.cell (p := ⟨b, off, none⟩) (Go.block_lt_of_cell c0)).trans c0, (h.cell (p := ⟨b, off + 1, none⟩) (Go.block_lt_of_cell c1)).trans c1, (h.cell (p := ⟨b, off + 2, none⟩) (Go.block_lt_of_cell c2)).trans c2, (h.cell (p := ⟨b, off + 3, none⟩) (Go.block_lt_of_cell c3)).trans c3, (h.cell (p := ⟨b, off + 4, none⟩) (Go.block_lt_of_cell c4)).trans c4, (h.cell (p := ⟨b, off + 5, none⟩) (Go.block_lt_of_cell c5)).trans c5, (h.cell (p := ⟨b, off + 6, none⟩) (Go.block_lt_of_cell d0)).trans d0, (h.cell (p := ⟨b, off + 7, none⟩) (Go.block_lt_of_cell d1)).trans d1, (h.cell (p := ⟨b, off + 8, none⟩) (Go.block_lt_of_cell d2)).trans d2, (h.cell (p := ⟨b, off + 9, none⟩) (Go.block_lt_of_cell d3)).trans d3, (h.cell (p := ⟨b, off + 10, none⟩) (Go.block_lt_of_cell d4)).trans d4, (h.cell (p := ⟨b, off + 11, none⟩) (Go.block_lt_of_cell d5)).trans d5⟩
  have HC0 : Hid (∀ W, Below wx.heap.size wx W → Calls Try.prog 77 #[u, .agg #[.int .i64 p.kids[0].op, .int .i64 p.kids[0].ctor, .int .i64 p.kids[0].n, .int .i64 p.kids[0].m, .int .i64 p.kids[0].var, .slice D4 p.kids[0].kids.length cp4], .agg #[.int .i64 v.ctor, .int .i64 v.n, .slice E v.kids.length ev]] W (MsQ e' B (1 + wP p.kids[0]) L (mtS d p.kids[0] v) W)) := fun W h => IH.out n e4 e' B D4 E cp4 ev t p.kids[0] v u L W HS0.out HF.out (hm4.keep (fun q hq => h.cell (p := q) (by omega)) (Nat.le_refl _)) (HV.out.keep (fun q hq => (below_aft hbx h hbx.size).cell (p := q) (by omega)) (Nat.le_refl _)) (by have := h.size; omega) (HU.out.at_ (below_aft hbx h hbx.size) hB) (by have := wP_kid p 0 h0k; omega)
  have HC1 : Hid (∀ W, Below wx.heap.size wx W → Calls Try.prog 77 #[u, .agg #[.int .i64 p.kids[1].op, .int .i64 p.kids[1].ctor, .int .i64 p.kids[1].n, .int .i64 p.kids[1].m, .int .i64 p.kids[1].var, .slice D5 p.kids[1].kids.length cp5], .agg #[.int .i64 v.ctor, .int .i64 v.n, .slice E v.kids.length ev]] W (MsQ e' B (1 + wP p.kids[1]) L (mtS d p.kids[1] v) W)) := fun W h => IH.out n e5 e' B D5 E cp5 ev t p.kids[1] v u L W HS1.out HF.out (hm5.keep (fun q hq => h.cell (p := q) (by omega)) (Nat.le_refl _)) (HV.out.keep (fun q hq => (below_aft hbx h hbx.size).cell (p := q) (by omega)) (Nat.le_refl _)) (by have := h.size; omega) (HU.out.at_ (below_aft hbx h hbx.size) hB) (by have := wP_kid p 1 h1k; omega)
  have HW0 := Lib.hid (wP_kid p 0 h0k)
  have HW1 := Lib.hid (wP_kid p 1 h1k)
  have HBD : Hid (Below wx.heap.size wx wx.drew) := (Below.refl _ wx).drew
  have SQ := HKS.out wx.drew HBD.out
  clear c0 c1 c2 c3 c4 c5 d0 d1 d2 d3 d4 d5 hm4 hm5 hvk hvk2 he4 he5 y0 y1 y2 y3 y4 y5 z0 z1 z2
  rw [HQ.out] at HC0
  go_enter Try.func77, Try.ntmps77
  go_wp2_with fail
  rw [HW.out]
  go_region_held3 (fun w' => w'.cell? ⟨w.heap.size, 4, none⟩ = some (.int .i64 p.var) ∧ w'.cell? ⟨w.heap.size + 1, 0, none⟩ = some (.int .i64 v.ctor) ∧ w'.cell? ⟨w.heap.size + 1, 1, none⟩ = some (.int .i64 v.n) ∧ w'.cell? ⟨w.heap.size + 1, 2, none⟩ = some (.slice E v.kids.length ev) ∧ w'.cell? ⟨w.heap.size, 5, none⟩ = some (.slice (some ⟨b, off, none⟩) p.kids.length ep) ∧ w'.cell? ⟨b, off, none⟩ = some (.int .i64 p.kids[0].op) ∧ w'.cell? ⟨b, off + 1, none⟩ = some (.int .i64 p.kids[0].ctor) ∧ w'.cell? ⟨b, off + 2, none⟩ = some (.int .i64 p.kids[0].n) ∧ w'.cell? ⟨b, off + 3, none⟩ = some (.int .i64 p.kids[0].m) ∧ w'.cell? ⟨b, off + 4, none⟩ = some (.int .i64 p.kids[0].var) ∧ w'.cell? ⟨b, off + 5, none⟩ = some (.slice D4 p.kids[0].kids.length cp4) ∧ w'.cell? ⟨b, off + 6, none⟩ = some (.int .i64 p.kids[1].op) ∧ w'.cell? ⟨b, off + 7, none⟩ = some (.int .i64 p.kids[1].ctor) ∧ w'.cell? ⟨b, off + 8, none⟩ = some (.int .i64 p.kids[1].n) ∧ w'.cell? ⟨b, off + 9, none⟩ = some (.int .i64 p.kids[1].m) ∧ w'.cell? ⟨b, off + 10, none⟩ = some (.int .i64 p.kids[1].var) ∧ w'.cell? ⟨b, off + 11, none⟩ = some (.slice D5 p.kids[1].kids.length cp5)) (first | with_reducible exact SQ | go_keep) (first | (go_at_call 77; (with_reducible refine (HC0.out wx.drew HBD.out).mono ?_); intro e1 w1 hq1; obtain ⟨u9, rfl, hb'⟩ := hq1.none_; have hbq : Below wx.heap.size wx w1 := ⟨hb'.os, hb'.tape, hb'.output, hb'.size, hb'.block⟩; have SQ := HKS.out _ hbq; clear hq1 hb'))
  clear SQ
  have HQB := Lib.hid hbq
  have hs1 := hbq.size
  have SQ := HKS.out w1.drew hbq.drew
  clear hbq
  go_wp2_with fail
  go_region_held3 (fun w' => w'.cell? ⟨w.heap.size, 4, none⟩ = some (.int .i64 p.var) ∧ w'.cell? ⟨w.heap.size + 1, 0, none⟩ = some (.int .i64 v.ctor) ∧ w'.cell? ⟨w.heap.size + 1, 1, none⟩ = some (.int .i64 v.n) ∧ w'.cell? ⟨w.heap.size + 1, 2, none⟩ = some (.slice E v.kids.length ev) ∧ w'.cell? ⟨w.heap.size, 5, none⟩ = some (.slice (some ⟨b, off, none⟩) p.kids.length ep) ∧ w'.cell? ⟨b, off, none⟩ = some (.int .i64 p.kids[0].op) ∧ w'.cell? ⟨b, off + 1, none⟩ = some (.int .i64 p.kids[0].ctor) ∧ w'.cell? ⟨b, off + 2, none⟩ = some (.int .i64 p.kids[0].n) ∧ w'.cell? ⟨b, off + 3, none⟩ = some (.int .i64 p.kids[0].m) ∧ w'.cell? ⟨b, off + 4, none⟩ = some (.int .i64 p.kids[0].var) ∧ w'.cell? ⟨b, off + 5, none⟩ = some (.slice D4 p.kids[0].kids.length cp4) ∧ w'.cell? ⟨b, off + 6, none⟩ = some (.int .i64 p.kids[1].op) ∧ w'.cell? ⟨b, off + 7, none⟩ = some (.int .i64 p.kids[1].ctor) ∧ w'.cell? ⟨b, off + 8, none⟩ = some (.int .i64 p.kids[1].n) ∧ w'.cell? ⟨b, off + 9, none⟩ = some (.int .i64 p.kids[1].m) ∧ w'.cell? ⟨b, off + 10, none⟩ = some (.int .i64 p.kids[1].var) ∧ w'.cell? ⟨b, off + 11, none⟩ = some (.slice D5 p.kids[1].kids.length cp5)) (first | with_reducible exact SQ | go_keep) (first | (go_at_call 77; (with_reducible refine (HC1.out w1.drew HQB.out.drew).mono ?_); rintro e2 w2 ⟨u2, b2, rfl, hb, hL, hb'⟩; have hbq : Below w1.heap.size w1 w2 := ⟨hb'.os, hb'.tape, hb'.output, hb'.size, hb'.block⟩; have SQ := HKS.out _ (below_aft HQB.out hbq hs1); have HBB := Lib.hid hb; have HLL := Lib.hid hL; clear hb hL hb'))
  all_goals
    clear SQ
    have hbw := below_aft hbx (below_aft HQB.out hbq hs1) hbx.size
    go_wp2_with fail
    go_ret2
    exact ⟨_, _, rfl, by rw [HM.out]; exact HBB.out, ⟨fun L1 h => by have h2 := HLL.out.1 L1 (by rw [← HM.out]; exact h); exact ⟨h2.1, by have := h2.2; have := HW1.out; omega⟩, HLL.out.2⟩, hbw⟩
set_option maxHeartbeats 4000000 in
theorem ms_6 (l : List Da) (d : Nat) (ih : MsC l d) (n e e' B : Nat) (D E : Option Addr) (ep ev : Nat) (t : Ty) (p : Pt) (v : Vl) (u : Value) (L : List Bn) (w : World) (hs : shP l (d + 1) t p = true) (hf : fitV l n t v = true) (hp : RPs e w B D p.kids) (hv : RVs e' w B E v.kids) (hB : B ≤ w.heap.size) (hu : OBr e' w 0 B u L) (hN : L.length + 1 + wP p ≤ 900) (hop : p.op = 6) :
    Calls Try.prog 77 #[u, .agg #[.int .i64 p.op, .int .i64 p.ctor, .int .i64 p.n, .int .i64 p.m, .int .i64 p.var, .slice D p.kids.length ep], .agg #[.int .i64 v.ctor, .int .i64 v.n, .slice E v.kids.length ev]] w (MsQ e' B (1 + wP p) L (mtS (d + 1) p v) w) := by
  have hl := hp.1
  have hlv := hv.1
  unfold maxLen at hl hlv
  have HP := Lib.hid hp
  have HV := Lib.hid hv
  have HF := Lib.hid hf
  have IH := Lib.hid ih
  have HU := Lib.hid hu
  have u1 : (p.op == 1) = false := ieq_f (by omega)
  have u2 : (p.op == 2) = false := ieq_f (by omega)
  have u3 : (p.op == 3) = false := ieq_f (by omega)
  have u4 : (p.op == 4) = false := ieq_f (by omega)
  have u5 : (p.op == 5) = false := ieq_f (by omega)
  have u6 := ieq_t hop
  obtain ⟨hk1, hs0⟩ := as_partsP hs hop
  have h0k : 0 < p.kids.length := by omega
  have HS0 := Lib.hid (hs0 h0k)
  have hi0 : (0 : Int) < (p.kids.length : Int) := by omega
  have HM := Lib.hid (mtS_as (d := d) (v := v) hop h0k)
  clear hk1 hs0
  generalize hwx : (w.alloc (.cells #[.int .i64 p.op, .int .i64 p.ctor, .int .i64 p.n, .int .i64 p.m, .int .i64 p.var, .slice D p.kids.length ep] 50)).alloc (.cells #[.int .i64 v.ctor, .int .i64 v.n, .slice E v.kids.length ev] 28) = wx
  have hbx : Below w.heap.size w wx := below_box2 hwx
  have hsx : w.heap.size + 2 ≤ wx.heap.size := by rw [← hwx]; simp
  have HXP : Hid (PBx wx w.heap.size p (.slice D p.kids.length ep)) := by rw [← hwx]; exact ⟨by simp [go_sem], by simp [go_sem], by simp [go_sem], by simp [go_sem], by simp [go_sem], by simp [go_sem]⟩
  have HXV : Hid (VBx wx (w.heap.size + 1) v.ctor v.n (.slice E v.kids.length ev)) := by rw [← hwx]; exact ⟨by simp [go_sem], by simp [go_sem], by simp [go_sem]⟩
  have HW := Lib.hid hwx
  clear hs hf hp hv ih hop hwx hu
  obtain ⟨y0, y1, y2, y3, y4, y5⟩ := HXP.out
  obtain ⟨z0, z1, z2⟩ := HXV.out
  clear y0 y1 y2 y3 y4 y5
  obtain ⟨b, off, rfl, hbB, hvk⟩ := (HP.out.keep (w' := wx) (fun q hq => hbx.cell (p := q) (by omega)) (Nat.le_refl _)).2 0 h0k
  rw [show off + 0 * 6 = off by omega] at hvk
  obtain ⟨e4, he4, D4, cp4, c0, c1, c2, c3, c4, c5, hm4⟩ := hvk.parts
  obtain ⟨y0, y1, y2, y3, y4, y5⟩ := HXP.out
  have HKS : Hid (∀ W, Below wx.heap.size wx W → W.cell? ⟨w.heap.size, 4, none⟩ = some (.int .i64 p.var) ∧ W.cell? ⟨w.heap.size + 1, 0, none⟩ = some (.int .i64 v.ctor) ∧ W.cell? ⟨w.heap.size + 1, 1, none⟩ = some (.int .i64 v.n) ∧ W.cell? ⟨w.heap.size + 1, 2, none⟩ = some (.slice E v.kids.length ev) ∧ W.cell? ⟨w.heap.size, 5, none⟩ = some (.slice (some ⟨b, off, none⟩) p.kids.length ep) ∧ W.cell? ⟨b, off, none⟩ = some (.int .i64 p.kids[0].op) ∧ W.cell? ⟨b, off + 1, none⟩ = some (.int .i64 p.kids[0].ctor) ∧ W.cell? ⟨b, off + 2, none⟩ = some (.int .i64 p.kids[0].n) ∧ W.cell? ⟨b, off + 3, none⟩ = some (.int .i64 p.kids[0].m) ∧ W.cell? ⟨b, off + 4, none⟩ = some (.int .i64 p.kids[0].var) ∧ W.cell? ⟨b, off + 5, none⟩ = some (.slice D4 p.kids[0].kids.length cp4)) := fun W h => ⟨(h.cell (p := ⟨w.heap.size, 4, none⟩) (Go.block_lt_of_cell y4)).trans y4, (h.cell (p := ⟨w.heap.size + 1, 0, none⟩) (Go.block_lt_of_cell z0)).trans z0, (h.cell (p := ⟨w.heap.size + 1, 1, none⟩) (Go.block_lt_of_cell z1)).trans z1, (h.cell (p := ⟨w.heap.size + 1, 2, none⟩) (Go.block_lt_of_cell z2)).trans z2, (h.cell (p := ⟨w.heap.size, 5, none⟩) (Go.block_lt_of_cell y5)).trans y5, (h.cell (p := ⟨b, off, none⟩) (Go.block_lt_of_cell c0)).trans c0, (h.cell (p := ⟨b, off + 1, none⟩) (Go.block_lt_of_cell c1)).trans c1, (h.cell (p := ⟨b, off + 2, none⟩) (Go.block_lt_of_cell c2)).trans c2, (h.cell (p := ⟨b, off + 3, none⟩) (Go.block_lt_of_cell c3)).trans c3, (h.cell (p := ⟨b, off + 4, none⟩) (Go.block_lt_of_cell c4)).trans c4, (h.cell (p := ⟨b, off + 5, none⟩) (Go.block_lt_of_cell c5)).trans c5⟩
  have HC0 : Hid (∀ (u6 : Value) (W : World), Below wx.heap.size wx W → OBr e' W wx.heap.size B u6 (L ++ [⟨p.var, v⟩]) → Calls Try.prog 77 #[u6, .agg #[.int .i64 p.kids[0].op, .int .i64 p.kids[0].ctor, .int .i64 p.kids[0].n, .int .i64 p.kids[0].m, .int .i64 p.kids[0].var, .slice D4 p.kids[0].kids.length cp4], .agg #[.int .i64 v.ctor, .int .i64 v.n, .slice E v.kids.length ev]] W (MsQ e' B (1 + wP p.kids[0]) (L ++ [⟨p.var, v⟩]) (mtS d p.kids[0] v) W)) := fun u6 W h ho => IH.out n e4 e' B D4 E cp4 ev t p.kids[0] v u6 (L ++ [⟨p.var, v⟩]) W HS0.out HF.out (hm4.keep (fun q hq => h.cell (p := q) (by omega)) (Nat.le_refl _)) (HV.out.keep (fun q hq => (below_aft hbx h hbx.size).cell (p := q) (by omega)) (Nat.le_refl _)) (by have := h.size; omega) (ho.lower (Nat.zero_le _)) (by have := wP_kid1 p 0 h0k; simp only [List.length_append, List.length_singleton]; omega)
  have HW0 := Lib.hid (wP_kid1 p 0 h0k)
  clear c0 c1 c2 c3 c4 c5 hm4 hvk he4 y0 y1 y2 y3 y4 y5 z0 z1 z2
  go_enter Try.func77, Try.ntmps77
  go_wp2_with fail
  rw [HW.out]
  have HBX : Hid (Below wx.heap.size wx wx.drew) := (Below.refl _ wx).drew
  refine Till.start (S := fun w' => w'.cell? ⟨w.heap.size, 4, none⟩ = some (.int .i64 p.var) ∧ w'.cell? ⟨w.heap.size + 1, 0, none⟩ = some (.int .i64 v.ctor) ∧ w'.cell? ⟨w.heap.size + 1, 1, none⟩ = some (.int .i64 v.n) ∧ w'.cell? ⟨w.heap.size + 1, 2, none⟩ = some (.slice E v.kids.length ev) ∧ w'.cell? ⟨w.heap.size, 5, none⟩ = some (.slice (some ⟨b, off, none⟩) p.kids.length ep) ∧ w'.cell? ⟨b, off, none⟩ = some (.int .i64 p.kids[0].op) ∧ w'.cell? ⟨b, off + 1, none⟩ = some (.int .i64 p.kids[0].ctor) ∧ w'.cell? ⟨b, off + 2, none⟩ = some (.int .i64 p.kids[0].n) ∧ w'.cell? ⟨b, off + 3, none⟩ = some (.int .i64 p.kids[0].m) ∧ w'.cell? ⟨b, off + 4, none⟩ = some (.int .i64 p.kids[0].var) ∧ w'.cell? ⟨b, off + 5, none⟩ = some (.slice D4 p.kids[0].kids.length cp4)) (z := 18) (by kernel_rfl) ?_
  obtain ⟨wd, hwd⟩ : ∃ wd, wd = wx.drew := ⟨_, rfl⟩
  have hsd : wx.heap.size ≤ wd.heap.size := by rw [hwd]; exact Nat.le_refl _
  rw [← hwd] at HBX ⊢
  have SQ := HKS.out wd HBX.out
  have HUD : Hid (OBr e' wd 0 B u L) := by unfold Hid; rw [hwd]; exact HU.out.at_ (below_aft hbx (Below.refl _ wx).drew hbx.size) hB
  clear hwd
  refine Till.take_ (i := 1) (d := some 70) (v := u) (ls' := #[false, true, false, false, false, false, false, false, false, false, false, false, false, false, false, false, false, false, false]) rfl rfl (by kernel_rfl) (by kernel_rfl) (by kernel_rfl) (by kernel_rfl) (fun _ _ _ h => h) SQ (Or.inl ⟨by rfl, fun wq hSw => ?_⟩) (by kernel_rfl) ?_
  · obtain ⟨hs0, hs1, hs2, hs3, hs4, hs5, hs6, hs7, hs8, hs9, hs10⟩ := hSw
    go_simp
  simp only [Act.put, List.setIfInBounds_toArray, List.set_cons_zero, List.set_cons_succ]
  refine Till.take_ (i := 3) (d := some 72) (v := .pointer (some ⟨w.heap.size, 4, none⟩)) (ls' := #[false, true, false, true, false, false, false, false, false, false, false, false, false, false, false, false, false, false, false]) rfl rfl (by kernel_rfl) (by kernel_rfl) (by kernel_rfl) (by kernel_rfl) (fun _ _ _ h => h) SQ (Or.inl ⟨by rfl, fun wq hSw => ?_⟩) (by kernel_rfl) ?_
  · obtain ⟨hs0, hs1, hs2, hs3, hs4, hs5, hs6, hs7, hs8, hs9, hs10⟩ := hSw
    go_simp
  simp only [Act.put, List.setIfInBounds_toArray, List.set_cons_zero, List.set_cons_succ]
  refine Till.take_ (i := 4) (d := some 73) (v := .int .i64 p.var) (ls' := #[false, true, false, true, true, false, false, false, false, false, false, false, false, false, false, false, false, false, false]) rfl rfl (by kernel_rfl) (by kernel_rfl) (by kernel_rfl) (by kernel_rfl) (fun _ _ _ h => h) SQ (Or.inl ⟨by rfl, fun wq hSw => ?_⟩) (by kernel_rfl) ?_
  · obtain ⟨hs0, hs1, hs2, hs3, hs4, hs5, hs6, hs7, hs8, hs9, hs10⟩ := hSw
    go_simp
  simp only [Act.put, List.setIfInBounds_toArray, List.set_cons_zero, List.set_cons_succ]
  refine Till.take_ (i := 5) (d := some 74) (v := .agg #[.int .i64 v.ctor, .int .i64 v.n, .slice E v.kids.length ev]) (ls' := #[false, true, false, true, true, true, false, false, false, false, false, false, false, false, false, false, false, false, false]) rfl rfl (by kernel_rfl) (by kernel_rfl) (by kernel_rfl) (by kernel_rfl) (fun _ _ _ h => h) SQ (Or.inl ⟨by rfl, fun wq hSw => ?_⟩) (by kernel_rfl) ?_
  · obtain ⟨hs0, hs1, hs2, hs3, hs4, hs5, hs6, hs7, hs8, hs9, hs10⟩ := hSw
    go_simp
  simp only [Act.put, List.setIfInBounds_toArray, List.set_cons_zero, List.set_cons_succ]
  refine Till.take_ (i := 6) (d := some 75) (v := .agg #[.int .i64 p.var, .int .i64 v.ctor, .int .i64 v.n, .slice E v.kids.length ev]) (ls' := #[false, true, false, true, true, true, true, false, false, false, false, false, false, false, false, false, false, false, false]) rfl rfl (by kernel_rfl) (by kernel_rfl) (by kernel_rfl) (by kernel_rfl) (fun _ _ _ h => h) SQ (Or.inl ⟨by rfl, fun wq hSw => ?_⟩) (by kernel_rfl) ?_
  · obtain ⟨hs0, hs1, hs2, hs3, hs4, hs5, hs6, hs7, hs8, hs9, hs10⟩ := hSw
    go_simp
  simp only [Act.put, List.setIfInBounds_toArray, List.set_cons_zero, List.set_cons_succ]
  refine Till.take_ (i := 9) (d := some 78) (v := .pointer (some ⟨w.heap.size, 5, none⟩)) (ls' := #[false, true, false, true, true, true, true, false, false, true, false, false, false, false, false, false, false, false, false]) rfl rfl (by kernel_rfl) (by kernel_rfl) (by kernel_rfl) (by kernel_rfl) (fun _ _ _ h => h) SQ (Or.inl ⟨by rfl, fun wq hSw => ?_⟩) (by kernel_rfl) ?_
  · obtain ⟨hs0, hs1, hs2, hs3, hs4, hs5, hs6, hs7, hs8, hs9, hs10⟩ := hSw
    go_simp
  simp only [Act.put, List.setIfInBounds_toArray, List.set_cons_zero, List.set_cons_succ]
  refine Till.take_ (i := 10) (d := some 79) (v := .slice (some ⟨b, off, none⟩) p.kids.length ep) (ls' := #[false, true, false, true, true, true, true, false, false, true, true, false, false, false, false, false, false, false, false]) rfl rfl (by kernel_rfl) (by kernel_rfl) (by kernel_rfl) (by kernel_rfl) (fun _ _ _ h => h) SQ (Or.inl ⟨by rfl, fun wq hSw => ?_⟩) (by kernel_rfl) ?_
  · obtain ⟨hs0, hs1, hs2, hs3, hs4, hs5, hs6, hs7, hs8, hs9, hs10⟩ := hSw
    go_simp
  simp only [Act.put, List.setIfInBounds_toArray, List.set_cons_zero, List.set_cons_succ]
  refine Till.take_ (i := 11) (d := some 80) (v := .pointer (some ⟨b, off, none⟩)) (ls' := #[false, true, false, true, true, true, true, false, false, true, true, true, false, false, false, false, false, false, false]) rfl rfl (by kernel_rfl) (by kernel_rfl) (by kernel_rfl) (by kernel_rfl) (fun _ _ _ h => h) SQ (Or.inl ⟨by rfl, fun wq hSw => ?_⟩) (by kernel_rfl) ?_
  · obtain ⟨hs0, hs1, hs2, hs3, hs4, hs5, hs6, hs7, hs8, hs9, hs10⟩ := hSw
    go_simp
  simp only [Act.put, List.setIfInBounds_toArray, List.set_cons_zero, List.set_cons_succ]
  refine Till.take_ (i := 12) (d := some 81) (v := .agg #[.int .i64 p.kids[0].op, .int .i64 p.kids[0].ctor, .int .i64 p.kids[0].n, .int .i64 p.kids[0].m, .int .i64 p.kids[0].var, .slice D4 p.kids[0].kids.length cp4]) (ls' := #[false, true, false, true, true, true, true, false, false, true, true, true, true, false, false, false, false, false, false]) rfl rfl (by kernel_rfl) (by kernel_rfl) (by kernel_rfl) (by kernel_rfl) (fun _ _ _ h => h) SQ (Or.inl ⟨by rfl, fun wq hSw => ?_⟩) (by kernel_rfl) ?_
  · obtain ⟨hs0, hs1, hs2, hs3, hs4, hs5, hs6, hs7, hs8, hs9, hs10⟩ := hSw
    go_simp
  simp only [Act.put, List.setIfInBounds_toArray, List.set_cons_zero, List.set_cons_succ]
  refine Till.take_ (i := 13) (d := some 82) (v := .agg #[.int .i64 v.ctor, .int .i64 v.n, .slice E v.kids.length ev]) (ls' := #[false, true, false, true, true, true, true, false, false, true, true, true, true, true, false, false, false, false, false]) rfl rfl (by kernel_rfl) (by kernel_rfl) (by kernel_rfl) (by kernel_rfl) (fun _ _ _ h => h) SQ (Or.inl ⟨by rfl, fun wq hSw => ?_⟩) (by kernel_rfl) ?_
  · obtain ⟨hs0, hs1, hs2, hs3, hs4, hs5, hs6, hs7, hs8, hs9, hs10⟩ := hSw
    go_simp
  simp only [Act.put, List.setIfInBounds_toArray, List.set_cons_zero, List.set_cons_succ]
  clear SQ
  refine Till.all (rs := [0, 7]) (by kernel_rfl) (by decide) (List.forall_mem_cons.2 ⟨?_, List.forall_mem_cons.2 ⟨?_, fun _ h => nomatch h⟩⟩)
  · refine Till.step rfl (by rfl) ?_
    intro K hK
    have hsW : wx.heap.size ≤ (wd).heap.size := HBX.out.size
    have HB2 : Hid (Below wx.heap.size wx ((wd).alloc (.cells #[] 69))) := HBX.out.alloc hsW _
    have HE : Hid (OBr e' ((wd).alloc (.cells #[] 69)) wx.heap.size B (.slice (some ⟨(wd).heap.size, 0, none⟩) 0 0) []) := OBr.new0 (e' := e') (B := B) _ hsW
    go_simp
    refine hK _ _ (fun _ => HKS.out _ HB2.out) ?_
    clear hK K
    refine Till.all (rs := [2, 7]) (by kernel_rfl) (by decide) (List.forall_mem_cons.2 ⟨?_, List.forall_mem_cons.2 ⟨?_, fun _ h => nomatch h⟩⟩)
    · refine Till.step rfl (by rfl) ?_
      intro K hK
      have hsU : wx.heap.size ≤ ((wd).alloc (.cells #[] 69)).heap.size := HB2.out.size
      have HU2 : Hid (OBr e' ((wd).alloc (.cells #[] 69)) 0 B u L) := HU.out.at_ (below_aft hbx HB2.out hbx.size) hB
      refine wp_app_out (.tmp 69) (.tmp 70) (by rfl) (by rfl) HE.out (by rfl) HU2.out (by omega) hsU (by omega) ?_
      intro u2 w2 hO2 hgr2 hb2
      have HB2 : Hid (Below wx.heap.size wx w2) := HB2.out.trans hb2
      have HO2 := Lib.hid hO2
      clear hO2 hgr2 hb2
      refine hK _ _ (fun _ => HKS.out _ HB2.out) ?_
      clear hK K
      refine Till.all (rs := [7]) (by kernel_rfl) (by decide) (List.forall_mem_cons.2 ⟨?_, fun _ h => nomatch h⟩)
      refine Till.step rfl (by rfl) ?_
      intro K hK
      have hsV : wx.heap.size ≤ (w2).heap.size := HB2.out.size
      have HB3 : Hid (Below wx.heap.size wx ((w2).alloc (.cells #[.int .i64 p.var, .int .i64 v.ctor, .int .i64 v.n, .slice E v.kids.length ev] 69))) := HB2.out.alloc hsV _
      have HO1 : Hid (OneB ((w2).alloc (.cells #[.int .i64 p.var, .int .i64 v.ctor, .int .i64 v.n, .slice E v.kids.length ev] 69)) wx.heap.size ((w2).heap.size) p.var v E ev) := OneB.new _ hsV p.var v E ev
      have HO2' : Hid (OBr e' ((w2).alloc (.cells #[.int .i64 p.var, .int .i64 v.ctor, .int .i64 v.n, .slice E v.kids.length ev] 69)) wx.heap.size B u2 L) := HO2.out.at_ ((Below.refl _ _).alloc (Nat.le_refl _) _) (by omega)
      go_simp
      refine hK _ _ (fun _ => HKS.out _ HB3.out) ?_
      clear hK K
      refine Till.all (rs := [8]) (by kernel_rfl) (by decide) (List.forall_mem_cons.2 ⟨?_, fun _ h => nomatch h⟩)
      refine Till.step rfl (by rfl) ?_
      intro K hK
      have hsT : wx.heap.size ≤ ((w2).alloc (.cells #[.int .i64 p.var, .int .i64 v.ctor, .int .i64 v.n, .slice E v.kids.length ev] 69)).heap.size := HB3.out.size
      have HVT : Hid (RVs e' ((w2).alloc (.cells #[.int .i64 p.var, .int .i64 v.ctor, .int .i64 v.n, .slice E v.kids.length ev] 69)) B E v.kids) := HV.out.keep (fun q hq => (below_aft hbx HB3.out hbx.size).cell (p := q) (by omega)) (Nat.le_refl _)
      refine wp_app_one (.tmp 71) (.tmp 76) (by rfl) (by rfl) HO2'.out (by rfl) HO1.out HVT.out (by omega) hsT (by omega) ?_
      intro u6 w6 hO6 hb6
      have HB6 : Hid (Below wx.heap.size wx w6) := HB3.out.trans hb6
      have HO6 := Lib.hid hO6
      clear hO6 hb6
      refine hK _ _ (fun _ => HKS.out _ HB6.out) ?_
      clear hK K
      clear HVT hsT
      refine Till.all (rs := [14]) (by kernel_rfl) (by decide) (List.forall_mem_cons.2 ⟨?_, fun _ h => nomatch h⟩)
      refine Till.step rfl (by rfl) ?_
      intro K hK
      go_simp
      go_at_call 77
      with_reducible refine (HC0.out u6 w6 HB6.out HO6.out).mono ?_
      rintro e7 w7 ⟨u7, b7, rfl, hb, hL, hb7⟩
      have HB7 : Hid (Below wx.heap.size wx w7) := below_aft HB6.out hb7 HB6.out.size
      have HBB := Lib.hid hb
      have HLL := Lib.hid hL
      clear hb hL hb7
      go_simp
      refine hK _ _ (fun _ => HKS.out _ HB7.out) ?_
      clear hK K
      have SQ := HKS.out w7 HB7.out
      refine Till.take_ (i := 15) (d := some 84) (v := u7) (ls' := #[true, true, true, true, true, true, true, true, true, true, true, true, true, true, true, true, false, false, false]) rfl rfl (by kernel_rfl) (by kernel_rfl) (by kernel_rfl) (by kernel_rfl) (fun _ _ _ h => h) SQ (Or.inl ⟨by rfl, fun wq hSw => ?_⟩) (by kernel_rfl) ?_
      · obtain ⟨hs0, hs1, hs2, hs3, hs4, hs5, hs6, hs7, hs8, hs9, hs10⟩ := hSw
        go_simp
      simp only [Act.put, List.setIfInBounds_toArray, List.set_cons_zero, List.set_cons_succ]
      refine Till.take_ (i := 16) (d := some 85) (v := .bool b7) (ls' := #[true, true, true, true, true, true, true, true, true, true, true, true, true, true, true, true, true, false, false]) rfl rfl (by kernel_rfl) (by kernel_rfl) (by kernel_rfl) (by kernel_rfl) (fun _ _ _ h => h) SQ (Or.inl ⟨by rfl, fun wq hSw => ?_⟩) (by kernel_rfl) ?_
      · obtain ⟨hs0, hs1, hs2, hs3, hs4, hs5, hs6, hs7, hs8, hs9, hs10⟩ := hSw
        go_simp
      simp only [Act.put, List.setIfInBounds_toArray, List.set_cons_zero, List.set_cons_succ]
      clear SQ
      refine Till.all (rs := [17]) (by kernel_rfl) (by decide) (List.forall_mem_cons.2 ⟨?_, fun _ h => nomatch h⟩)
      refine Till.step rfl (by rfl) ?_
      intro K hK
      go_simp
      refine hK _ _ (fun _ => HKS.out _ HB7.out) ?_
      clear hK K
      refine Till.all (rs := [18]) (by kernel_rfl) (by decide) (List.forall_mem_cons.2 ⟨?_, fun _ h => nomatch h⟩)
      refine Till.step rfl (by rfl) ?_
      intro K hK
      go_simp
      refine hK _ _ (fun h => absurd rfl h) ?_
      clear hK K
      refine Till.done (by kernel_rfl) ?_ _
      have hbw := below_aft hbx HB7.out hbx.size
      go_wp2_with fail
      go_ret2
      refine ⟨_, _, rfl, by rw [HM.out, HBB.out]; cases mtS d p.kids[0] v <;> rfl, ⟨fun L1 h => ?_, HLL.out.2⟩, hbw⟩
      rw [HM.out] at h
      obtain ⟨L2, h2, rfl⟩ := Option.map_eq_some_iff.1 h
      have h3 := HLL.out.1 L2 h2
      refine ⟨by have h4 := h3.1; rw [List.append_assoc] at h4; exact h4, by have := h3.2; have := HW0.out; simp only [List.length_cons]; omega⟩
    · refine Till.step rfl (by rfl) ?_
      intro K hK
      have hsV : wx.heap.size ≤ ((wd).alloc (.cells #[] 69)).heap.size := HB2.out.size
      have HB3 : Hid (Below wx.heap.size wx (((wd).alloc (.cells #[] 69)).alloc (.cells #[.int .i64 p.var, .int .i64 v.ctor, .int .i64 v.n, .slice E v.kids.length ev] 69))) := HB2.out.alloc hsV _
      have HO1 : Hid (OneB (((wd).alloc (.cells #[] 69)).alloc (.cells #[.int .i64 p.var, .int .i64 v.ctor, .int .i64 v.n, .slice E v.kids.length ev] 69)) wx.heap.size (wd.heap.size + 1) p.var v E ev) := by have h := OneB.new _ hsV p.var v E ev; rw [World.size_alloc] at h; exact h
      have HE' : Hid (OBr e' (((wd).alloc (.cells #[] 69)).alloc (.cells #[.int .i64 p.var, .int .i64 v.ctor, .int .i64 v.n, .slice E v.kids.length ev] 69)) wx.heap.size B (.slice (some ⟨(wd).heap.size, 0, none⟩) 0 0) []) := HE.out.at_ ((Below.refl _ _).alloc (Nat.le_refl _) _) (by omega)
      go_simp
      refine hK _ _ (fun _ => HKS.out _ HB3.out) ?_
      clear hK K
      refine Till.all (rs := [2]) (by kernel_rfl) (by decide) (List.forall_mem_cons.2 ⟨?_, fun _ h => nomatch h⟩)
      refine Till.step rfl (by rfl) ?_
      intro K hK
      have hsU : wx.heap.size ≤ (((wd).alloc (.cells #[] 69)).alloc (.cells #[.int .i64 p.var, .int .i64 v.ctor, .int .i64 v.n, .slice E v.kids.length ev] 69)).heap.size := HB3.out.size
      have HU2 : Hid (OBr e' (((wd).alloc (.cells #[] 69)).alloc (.cells #[.int .i64 p.var, .int .i64 v.ctor, .int .i64 v.n, .slice E v.kids.length ev] 69)) 0 B u L) := HU.out.at_ (below_aft hbx HB3.out hbx.size) hB
      refine wp_app_out (.tmp 69) (.tmp 70) (by rfl) (by rfl) HE'.out (by rfl) HU2.out (by omega) hsU (by omega) ?_
      intro u2 w2 hO2 hgr2 hb2
      have HB2 : Hid (Below wx.heap.size wx w2) := HB3.out.trans hb2
      have HO2 := Lib.hid hO2
      have HO3 : Hid (OneB w2 wx.heap.size (wd.heap.size + 1) p.var v E ev) := HO1.out.grown hgr2 (by simp [Value.ownBlock])
      clear hO2 hgr2 hb2
      refine hK _ _ (fun _ => HKS.out _ HB2.out) ?_
      clear hK K
      refine Till.all (rs := [8]) (by kernel_rfl) (by decide) (List.forall_mem_cons.2 ⟨?_, fun _ h => nomatch h⟩)
      refine Till.step rfl (by rfl) ?_
      intro K hK
      have hsT : wx.heap.size ≤ (w2).heap.size := HB2.out.size
      have HVT : Hid (RVs e' (w2) B E v.kids) := HV.out.keep (fun q hq => (below_aft hbx HB2.out hbx.size).cell (p := q) (by omega)) (Nat.le_refl _)
      refine wp_app_one (.tmp 71) (.tmp 76) (by rfl) (by rfl) HO2.out (by rfl) HO3.out HVT.out (by omega) hsT (by omega) ?_
      intro u6 w6 hO6 hb6
      have HB6 : Hid (Below wx.heap.size wx w6) := HB2.out.trans hb6
      have HO6 := Lib.hid hO6
      clear hO6 hb6
      refine hK _ _ (fun _ => HKS.out _ HB6.out) ?_
      clear hK K
      clear HVT hsT
      refine Till.all (rs := [14]) (by kernel_rfl) (by decide) (List.forall_mem_cons.2 ⟨?_, fun _ h => nomatch h⟩)
      refine Till.step rfl (by rfl) ?_
      intro K hK
      go_simp
      go_at_call 77
      with_reducible refine (HC0.out u6 w6 HB6.out HO6.out).mono ?_
      rintro e7 w7 ⟨u7, b7, rfl, hb, hL, hb7⟩
      have HB7 : Hid (Below wx.heap.size wx w7) := below_aft HB6.out hb7 HB6.out.size
      have HBB := Lib.hid hb
      have HLL := Lib.hid hL
      clear hb hL hb7
      go_simp
      refine hK _ _ (fun _ => HKS.out _ HB7.out) ?_
      clear hK K
      have SQ := HKS.out w7 HB7.out
      refine Till.take_ (i := 15) (d := some 84) (v := u7) (ls' := #[true, true, true, true, true, true, true, true, true, true, true, true, true, true, true, true, false, false, false]) rfl rfl (by kernel_rfl) (by kernel_rfl) (by kernel_rfl) (by kernel_rfl) (fun _ _ _ h => h) SQ (Or.inl ⟨by rfl, fun wq hSw => ?_⟩) (by kernel_rfl) ?_
      · obtain ⟨hs0, hs1, hs2, hs3, hs4, hs5, hs6, hs7, hs8, hs9, hs10⟩ := hSw
        go_simp
      simp only [Act.put, List.setIfInBounds_toArray, List.set_cons_zero, List.set_cons_succ]
      refine Till.take_ (i := 16) (d := some 85) (v := .bool b7) (ls' := #[true, true, true, true, true, true, true, true, true, true, true, true, true, true, true, true, true, false, false]) rfl rfl (by kernel_rfl) (by kernel_rfl) (by kernel_rfl) (by kernel_rfl) (fun _ _ _ h => h) SQ (Or.inl ⟨by rfl, fun wq hSw => ?_⟩) (by kernel_rfl) ?_
      · obtain ⟨hs0, hs1, hs2, hs3, hs4, hs5, hs6, hs7, hs8, hs9, hs10⟩ := hSw
        go_simp
      simp only [Act.put, List.setIfInBounds_toArray, List.set_cons_zero, List.set_cons_succ]
      clear SQ
      refine Till.all (rs := [17]) (by kernel_rfl) (by decide) (List.forall_mem_cons.2 ⟨?_, fun _ h => nomatch h⟩)
      refine Till.step rfl (by rfl) ?_
      intro K hK
      go_simp
      refine hK _ _ (fun _ => HKS.out _ HB7.out) ?_
      clear hK K
      refine Till.all (rs := [18]) (by kernel_rfl) (by decide) (List.forall_mem_cons.2 ⟨?_, fun _ h => nomatch h⟩)
      refine Till.step rfl (by rfl) ?_
      intro K hK
      go_simp
      refine hK _ _ (fun h => absurd rfl h) ?_
      clear hK K
      refine Till.done (by kernel_rfl) ?_ _
      have hbw := below_aft hbx HB7.out hbx.size
      go_wp2_with fail
      go_ret2
      refine ⟨_, _, rfl, by rw [HM.out, HBB.out]; cases mtS d p.kids[0] v <;> rfl, ⟨fun L1 h => ?_, HLL.out.2⟩, hbw⟩
      rw [HM.out] at h
      obtain ⟨L2, h2, rfl⟩ := Option.map_eq_some_iff.1 h
      have h3 := HLL.out.1 L2 h2
      refine ⟨by have h4 := h3.1; rw [List.append_assoc] at h4; exact h4, by have := h3.2; have := HW0.out; simp only [List.length_cons]; omega⟩
  · refine Till.step rfl (by rfl) ?_
    intro K hK
    have hsV : wx.heap.size ≤ (wd).heap.size := HBX.out.size
    have HB2 : Hid (Below wx.heap.size wx ((wd).alloc (.cells #[.int .i64 p.var, .int .i64 v.ctor, .int .i64 v.n, .slice E v.kids.length ev] 69))) := HBX.out.alloc hsV _
    have HO1 : Hid (OneB ((wd).alloc (.cells #[.int .i64 p.var, .int .i64 v.ctor, .int .i64 v.n, .slice E v.kids.length ev] 69)) wx.heap.size ((wd).heap.size) p.var v E ev) := OneB.new _ hsV p.var v E ev
    go_simp
    refine hK _ _ (fun _ => HKS.out _ HB2.out) ?_
    clear hK K
    refine Till.all (rs := [0]) (by kernel_rfl) (by decide) (List.forall_mem_cons.2 ⟨?_, fun _ h => nomatch h⟩)
    refine Till.step rfl (by rfl) ?_
    intro K hK
    have hsW : wx.heap.size ≤ ((wd).alloc (.cells #[.int .i64 p.var, .int .i64 v.ctor, .int .i64 v.n, .slice E v.kids.length ev] 69)).heap.size := HB2.out.size
    have HB2 : Hid (Below wx.heap.size wx (((wd).alloc (.cells #[.int .i64 p.var, .int .i64 v.ctor, .int .i64 v.n, .slice E v.kids.length ev] 69)).alloc (.cells #[] 69))) := HB2.out.alloc hsW _
    have HE : Hid (OBr e' (((wd).alloc (.cells #[.int .i64 p.var, .int .i64 v.ctor, .int .i64 v.n, .slice E v.kids.length ev] 69)).alloc (.cells #[] 69)) wx.heap.size B (.slice (some ⟨wd.heap.size + 1, 0, none⟩) 0 0) []) := by have h := OBr.new0 (e' := e') (B := B) _ hsW; rw [World.size_alloc] at h; exact h
    go_simp
    refine hK _ _ (fun _ => HKS.out _ HB2.out) ?_
    clear hK K
    have HO3 : Hid (OneB (((wd).alloc (.cells #[.int .i64 p.var, .int .i64 v.ctor, .int .i64 v.n, .slice E v.kids.length ev] 69)).alloc (.cells #[] 69)) wx.heap.size (wd).heap.size p.var v E ev) := HO1.out.alloc _
    refine Till.all (rs := [2]) (by kernel_rfl) (by decide) (List.forall_mem_cons.2 ⟨?_, fun _ h => nomatch h⟩)
    refine Till.step rfl (by rfl) ?_
    intro K hK
    have hsU : wx.heap.size ≤ (((wd).alloc (.cells #[.int .i64 p.var, .int .i64 v.ctor, .int .i64 v.n, .slice E v.kids.length ev] 69)).alloc (.cells #[] 69)).heap.size := HB2.out.size
    have HU2 : Hid (OBr e' (((wd).alloc (.cells #[.int .i64 p.var, .int .i64 v.ctor, .int .i64 v.n, .slice E v.kids.length ev] 69)).alloc (.cells #[] 69)) 0 B u L) := HU.out.at_ (below_aft hbx HB2.out hbx.size) hB
    refine wp_app_out (.tmp 69) (.tmp 70) (by rfl) (by rfl) HE.out (by rfl) HU2.out (by omega) hsU (by omega) ?_
    intro u2 w2 hO2 hgr2 hb2
    have HB2 : Hid (Below wx.heap.size wx w2) := HB2.out.trans hb2
    have HO2 := Lib.hid hO2
    have HO4 : Hid (OneB w2 wx.heap.size (wd).heap.size p.var v E ev) := HO3.out.grown hgr2 (by simp [Value.ownBlock])
    clear hO2 hgr2 hb2
    refine hK _ _ (fun _ => HKS.out _ HB2.out) ?_
    clear hK K
    refine Till.all (rs := [8]) (by kernel_rfl) (by decide) (List.forall_mem_cons.2 ⟨?_, fun _ h => nomatch h⟩)
    refine Till.step rfl (by rfl) ?_
    intro K hK
    have hsT : wx.heap.size ≤ (w2).heap.size := HB2.out.size
    have HVT : Hid (RVs e' (w2) B E v.kids) := HV.out.keep (fun q hq => (below_aft hbx HB2.out hbx.size).cell (p := q) (by omega)) (Nat.le_refl _)
    refine wp_app_one (.tmp 71) (.tmp 76) (by rfl) (by rfl) HO2.out (by rfl) HO4.out HVT.out (by omega) hsT (by omega) ?_
    intro u6 w6 hO6 hb6
    have HB6 : Hid (Below wx.heap.size wx w6) := HB2.out.trans hb6
    have HO6 := Lib.hid hO6
    clear hO6 hb6
    refine hK _ _ (fun _ => HKS.out _ HB6.out) ?_
    clear hK K
    clear HVT hsT
    refine Till.all (rs := [14]) (by kernel_rfl) (by decide) (List.forall_mem_cons.2 ⟨?_, fun _ h => nomatch h⟩)
    refine Till.step rfl (by rfl) ?_
    intro K hK
    go_simp
    go_at_call 77
    with_reducible refine (HC0.out u6 w6 HB6.out HO6.out).mono ?_
    rintro e7 w7 ⟨u7, b7, rfl, hb, hL, hb7⟩
    have HB7 : Hid (Below wx.heap.size wx w7) := below_aft HB6.out hb7 HB6.out.size
    have HBB := Lib.hid hb
    have HLL := Lib.hid hL
    clear hb hL hb7
    go_simp
    refine hK _ _ (fun _ => HKS.out _ HB7.out) ?_
    clear hK K
    have SQ := HKS.out w7 HB7.out
    refine Till.take_ (i := 15) (d := some 84) (v := u7) (ls' := #[true, true, true, true, true, true, true, true, true, true, true, true, true, true, true, true, false, false, false]) rfl rfl (by kernel_rfl) (by kernel_rfl) (by kernel_rfl) (by kernel_rfl) (fun _ _ _ h => h) SQ (Or.inl ⟨by rfl, fun wq hSw => ?_⟩) (by kernel_rfl) ?_
    · obtain ⟨hs0, hs1, hs2, hs3, hs4, hs5, hs6, hs7, hs8, hs9, hs10⟩ := hSw
      go_simp
    simp only [Act.put, List.setIfInBounds_toArray, List.set_cons_zero, List.set_cons_succ]
    refine Till.take_ (i := 16) (d := some 85) (v := .bool b7) (ls' := #[true, true, true, true, true, true, true, true, true, true, true, true, true, true, true, true, true, false, false]) rfl rfl (by kernel_rfl) (by kernel_rfl) (by kernel_rfl) (by kernel_rfl) (fun _ _ _ h => h) SQ (Or.inl ⟨by rfl, fun wq hSw => ?_⟩) (by kernel_rfl) ?_
    · obtain ⟨hs0, hs1, hs2, hs3, hs4, hs5, hs6, hs7, hs8, hs9, hs10⟩ := hSw
      go_simp
    simp only [Act.put, List.setIfInBounds_toArray, List.set_cons_zero, List.set_cons_succ]
    clear SQ
    refine Till.all (rs := [17]) (by kernel_rfl) (by decide) (List.forall_mem_cons.2 ⟨?_, fun _ h => nomatch h⟩)
    refine Till.step rfl (by rfl) ?_
    intro K hK
    go_simp
    refine hK _ _ (fun _ => HKS.out _ HB7.out) ?_
    clear hK K
    refine Till.all (rs := [18]) (by kernel_rfl) (by decide) (List.forall_mem_cons.2 ⟨?_, fun _ h => nomatch h⟩)
    refine Till.step rfl (by rfl) ?_
    intro K hK
    go_simp
    refine hK _ _ (fun h => absurd rfl h) ?_
    clear hK K
    refine Till.done (by kernel_rfl) ?_ _
    have hbw := below_aft hbx HB7.out hbx.size
    go_wp2_with fail
    go_ret2
    refine ⟨_, _, rfl, by rw [HM.out, HBB.out]; cases mtS d p.kids[0] v <;> rfl, ⟨fun L1 h => ?_, HLL.out.2⟩, hbw⟩
    rw [HM.out] at h
    obtain ⟨L2, h2, rfl⟩ := Option.map_eq_some_iff.1 h
    have h3 := HLL.out.1 L2 h2
    refine ⟨by have h4 := h3.1; rw [List.append_assoc] at h4; exact h4, by have := h3.2; have := HW0.out; simp only [List.length_cons]; omega⟩
set_option maxHeartbeats 4000000 in
theorem ms_41 (l : List Da) (d : Nat) (ih : MsC l d) (n e e' B : Nat) (D E : Option Addr) (ep ev : Nat) (t : Ty) (p : Pt) (v : Vl) (u : Value) (L : List Bn) (w : World) (hs : shP l (d + 1) t p = true) (hf : fitV l n t v = true) (hp : RPs e w B D p.kids) (hv : RVs e' w B E v.kids) (hB : B ≤ w.heap.size) (hu : OBr e' w 0 B u L) (hN : L.length + 1 + wP p ≤ 900) (h1 : p.ctor = v.ctor) (hop : p.op = 4) :
    Calls Try.prog 77 #[u, .agg #[.int .i64 p.op, .int .i64 p.ctor, .int .i64 p.n, .int .i64 p.m, .int .i64 p.var, .slice D p.kids.length ep], .agg #[.int .i64 v.ctor, .int .i64 v.n, .slice E v.kids.length ev]] w (MsQ e' B (1 + wP p) L (mtS (d + 1) p v) w) := by
  have hl := hp.1
  have hlv := hv.1
  unfold maxLen at hl hlv
  have HP := Lib.hid hp
  have HV := Lib.hid hv
  have HF := Lib.hid hf
  have IH := Lib.hid ih
  have HU := Lib.hid hu
  have u1 : (p.op == 1) = false := ieq_f (by omega)
  have u2 : (p.op == 2) = false := ieq_f (by omega)
  have u3 : (p.op == 3) = false := ieq_f (by omega)
  have u4 := ieq_t hop
  have u5 : (p.op == 5) = false := ieq_f (by omega)
  have u6 : (p.op == 6) = false := ieq_f (by omega)
  have q1 : (v.ctor != p.ctor) = false := by simpa using h1.symm
  have HM := Lib.hid (mtS_ctor (d := d) (p := p) (v := v) hop h1)
  obtain ⟨hmem, hkl, hsh⟩ := ctor_partsP hs hop
  obtain ⟨n', _, hvl, hfk⟩ := fit_kids hmem h1 hf
  have HPL := Lib.hid hkl
  have HVL := Lib.hid hvl
  have HSH := Lib.hid hsh
  have HFK := Lib.hid hfk
  have HSum : Hid (wP p = p.kids.length + (p.kids.map wP).sum) := (wP_kids p).trans (wPs_sum p.kids)
  have hlp : p.kids.length ≤ 900 := by have := HSum.out; omega
  clear h1 hmem hkl hsh hvl hfk
  generalize hwx : (w.alloc (.cells #[.int .i64 p.op, .int .i64 p.ctor, .int .i64 p.n, .int .i64 p.m, .int .i64 p.var, .slice D p.kids.length ep] 50)).alloc (.cells #[.int .i64 v.ctor, .int .i64 v.n, .slice E v.kids.length ev] 28) = wx
  have hbx : Below w.heap.size w wx := below_box2 hwx
  have hsx : w.heap.size + 2 ≤ wx.heap.size := by rw [← hwx]; simp
  have HXP : Hid (PBx wx w.heap.size p (.slice D p.kids.length ep)) := by rw [← hwx]; exact ⟨by simp [go_sem], by simp [go_sem], by simp [go_sem], by simp [go_sem], by simp [go_sem], by simp [go_sem]⟩
  have HXV : Hid (VBx wx (w.heap.size + 1) v.ctor v.n (.slice E v.kids.length ev)) := by rw [← hwx]; exact ⟨by simp [go_sem], by simp [go_sem], by simp [go_sem]⟩
  have HW := Lib.hid hwx
  clear hs hf hp hv ih hop hwx hu
  obtain ⟨y0, y1, y2, y3, y4, y5⟩ := HXP.out
  obtain ⟨z0, z1, z2⟩ := HXV.out
  go_enter Try.func77, Try.ntmps77
  go_wp2_with fail
  rw [HW.out]
  clear y0 y1 y2 y3 y4 y5 z0 z1 z2
  go_loopw [0, 10] (fun us i wr => ∃ k : Nat, k ≤ p.kids.length ∧ i = .int .i64 k ∧ ∃ u' M, u' = us ∧ Hid (OBr e' wr 0 B u' (L ++ M)) ∧ Hid (catO (kidS d p.kids v.kids) k = some M) ∧ Hid (M.length ≤ k + ((p.kids.take k).map wP).sum) ∧ Below wx.heap.size wx wr) (fun _ i _ => p.kids.length - (intOf i).toNat)
  case atStart => exact ⟨0, by omega, rfl, _, [], rfl, by unfold Hid; rw [List.append_nil]; exact HU.out.at_ hbx hB, rfl, by unfold Hid; simp, Below.refl _ _⟩
  case round =>
    obtain ⟨k, hk, rfl, u', M, rfl, HO, HC, HLn, hb⟩ := hrel
    have hbs := hb.size
    have hbw := below_aft hbx hb hbx.size
    obtain ⟨_, _, _, _, _, y5'⟩ := HXP.out
    obtain ⟨_, _, z2'⟩ := HXV.out
    have y5 := (hb.cell (p := ⟨w.heap.size, 5, none⟩) (Go.block_lt_of_cell y5')).trans y5'
    have z2 := (hb.cell (p := ⟨w.heap.size + 1, 2, none⟩) (Go.block_lt_of_cell z2')).trans z2'
    clear y5' z2'
    by_cases hlt : k < p.kids.length
    · have hka : k < (agR l t p.ctor).length := by rw [← HPL.out]; exact hlt
      have hkv : k < v.kids.length := by rw [HVL.out]; exact hka
      have hkI : (k : Int) < (p.kids.length : Int) := by omega
      have hkI2 : (k : Int) < (v.kids.length : Int) := by omega
      have HT := Lib.hid (sum_take_succ wP p.kids k hlt)
      have HLe := Lib.hid (sum_take_le wP p.kids (k + 1))
      have HKK := Lib.hid (kidS_at (d := d) hlt hkv)
      obtain ⟨bp, op, rfl, hbp, hvp⟩ := (HP.out.keep (w' := wr) (fun q hq => hbw.cell (p := q) (by omega)) (Nat.le_refl _)).2 k hlt
      obtain ⟨e1, he1, D', cp, c0, c1, c2, c3, c4, c5, hm⟩ := hvp.parts
      obtain ⟨bv, ov, rfl, hbv, hvv⟩ := (HV.out.keep (w' := wr) (fun q hq => hbw.cell (p := q) (by omega)) (Nat.le_refl _)).2 k hkv
      obtain ⟨e2, he2, E', cv, v0, v1, v2, hmv⟩ := hvv.parts
      have HKS : Hid (∀ W, Below wr.heap.size wr W → W.cell? ⟨w.heap.size, 5, none⟩ = some (.slice (some ⟨bp, op, none⟩) p.kids.length ep) ∧ W.cell? ⟨w.heap.size + 1, 2, none⟩ = some (.slice (some ⟨bv, ov, none⟩) v.kids.length ev) ∧ W.cell? ⟨bp, op + k * 6, none⟩ = some (.int .i64 p.kids[k].op) ∧ W.cell? ⟨bp, op + k * 6 + 1, none⟩ = some (.int .i64 p.kids[k].ctor) ∧ W.cell? ⟨bp, op + k * 6 + 2, none⟩ = some (.int .i64 p.kids[k].n) ∧ W.cell? ⟨bp, op + k * 6 + 3, none⟩ = some (.int .i64 p.kids[k].m) ∧ W.cell? ⟨bp, op + k * 6 + 4, none⟩ = some (.int .i64 p.kids[k].var) ∧ W.cell? ⟨bp, op + k * 6 + 5, none⟩ = some (.slice D' p.kids[k].kids.length cp) ∧ W.cell? ⟨bv, ov + k * 3, none⟩ = some (.int .i64 v.kids[k].ctor) ∧ W.cell? ⟨bv, ov + k * 3 + 1, none⟩ = some (.int .i64 v.kids[k].n) ∧ W.cell? ⟨bv, ov + k * 3 + 2, none⟩ = some (.slice E' v.kids[k].kids.length cv)) := fun W h => ⟨(h.cell (p := ⟨w.heap.size, 5, none⟩) (Go.block_lt_of_cell y5)).trans y5, (h.cell (p := ⟨w.heap.size + 1, 2, none⟩) (Go.block_lt_of_cell z2)).trans z2, (h.cell (p := ⟨bp, op + k * 6, none⟩) (Go.block_lt_of_cell c0)).trans c0, (h.cell (p := ⟨bp, op + k * 6 + 1, none⟩) (Go.block_lt_of_cell c1)).trans c1, (h.cell (p := ⟨bp, op + k * 6 + 2, none⟩) (Go.block_lt_of_cell c2)).trans c2, (h.cell (p := ⟨bp, op + k * 6 + 3, none⟩) (Go.block_lt_of_cell c3)).trans c3, (h.cell (p := ⟨bp, op + k * 6 + 4, none⟩) (Go.block_lt_of_cell c4)).trans c4, (h.cell (p := ⟨bp, op + k * 6 + 5, none⟩) (Go.block_lt_of_cell c5)).trans c5, (h.cell (p := ⟨bv, ov + k * 3, none⟩) (Go.block_lt_of_cell v0)).trans v0, (h.cell (p := ⟨bv, ov + k * 3 + 1, none⟩) (Go.block_lt_of_cell v1)).trans v1, (h.cell (p := ⟨bv, ov + k * 3 + 2, none⟩) (Go.block_lt_of_cell v2)).trans v2⟩
      have hwk : (L ++ M).length + 1 + wP p.kids[k] ≤ 900 := by have a := HT.out; have c := HLe.out; have f := HSum.out; have g := HLn.out; rw [List.length_append]; omega
      have HCI : Hid (∀ W, Below wr.heap.size wr W → Calls Try.prog 77 #[u', .agg #[.int .i64 p.kids[k].op, .int .i64 p.kids[k].ctor, .int .i64 p.kids[k].n, .int .i64 p.kids[k].m, .int .i64 p.kids[k].var, .slice D' p.kids[k].kids.length cp], .agg #[.int .i64 v.kids[k].ctor, .int .i64 v.kids[k].n, .slice E' v.kids[k].kids.length cv]] W (MsQ e' B (1 + wP p.kids[k]) (L ++ M) (mtS d p.kids[k] v.kids[k]) W)) := fun W h => IH.out n' e1 e' B D' E' cp cv (agR l t p.ctor)[k] p.kids[k] v.kids[k] u' (L ++ M) W (HSH.out k hka hlt) (HFK.out k hka hkv) (hm.keep (fun q hq => h.cell (p := q) (by omega)) (Nat.le_refl _)) ((hmv.more (by omega)).keep (fun q hq => h.cell (p := q) (by omega)) (Nat.le_refl _)) (by have := h.size; omega) (HO.out.at_ h (by omega)) hwk
      have HBD : Hid (Below wr.heap.size wr wr.drew) := (Below.refl _ wr).drew
      have SQ := HKS.out wr.drew HBD.out
      obtain ⟨o, ho0⟩ : ∃ o, mtS d p.kids[k] v.kids[k] = o := ⟨_, rfl⟩
      rw [ho0] at HCI
      have HOO := Lib.hid ho0
      clear hm hmv hvp hvv he1 he2 c0 c1 c2 c3 c4 c5 v0 v1 v2 ho0
      cases o with
      | none =>
        have HNO : Hid (catO (kidS d p.kids v.kids) p.kids.length = none) := catO_none hlt (HKK.out.trans HOO.out)
        go_wp2_with fail
        go_region_held3 (fun w' => w'.cell? ⟨w.heap.size, 5, none⟩ = some (.slice (some ⟨bp, op, none⟩) p.kids.length ep) ∧ w'.cell? ⟨w.heap.size + 1, 2, none⟩ = some (.slice (some ⟨bv, ov, none⟩) v.kids.length ev) ∧ w'.cell? ⟨bp, op + k * 6, none⟩ = some (.int .i64 p.kids[k].op) ∧ w'.cell? ⟨bp, op + k * 6 + 1, none⟩ = some (.int .i64 p.kids[k].ctor) ∧ w'.cell? ⟨bp, op + k * 6 + 2, none⟩ = some (.int .i64 p.kids[k].n) ∧ w'.cell? ⟨bp, op + k * 6 + 3, none⟩ = some (.int .i64 p.kids[k].m) ∧ w'.cell? ⟨bp, op + k * 6 + 4, none⟩ = some (.int .i64 p.kids[k].var) ∧ w'.cell? ⟨bp, op + k * 6 + 5, none⟩ = some (.slice D' p.kids[k].kids.length cp) ∧ w'.cell? ⟨bv, ov + k * 3, none⟩ = some (.int .i64 v.kids[k].ctor) ∧ w'.cell? ⟨bv, ov + k * 3 + 1, none⟩ = some (.int .i64 v.kids[k].n) ∧ w'.cell? ⟨bv, ov + k * 3 + 2, none⟩ = some (.slice E' v.kids[k].kids.length cv)) (first | with_reducible exact SQ | go_keep) (first | (go_at_call 77; (with_reducible refine (HCI.out wr.drew HBD.out).mono ?_); intro e1 w1 hq1; obtain ⟨u2, rfl, hb'⟩ := hq1.none_; have hbq : Below wr.heap.size wr w1 := ⟨hb'.os, hb'.tape, hb'.output, hb'.size, hb'.block⟩; have SQ := HKS.out _ hbq; clear hq1 hb'))
        all_goals
          clear SQ
          have hbe := below_aft hbw hbq hbw.size
          go_wp2_with fail
          go_ret2
          exact MsQ.no (HM.out.trans HNO.out) ⟨L ++ M, HO.out.at_ hbq (by have := hbw.size; omega)⟩ hbe
      | some M2 =>
        have HCN : Hid (catO (kidS d p.kids v.kids) (k + 1) = some (M ++ M2)) := catO_some HC.out (HKK.out.trans HOO.out)
        go_wp2_with fail
        go_region_held3 (fun w' => w'.cell? ⟨w.heap.size, 5, none⟩ = some (.slice (some ⟨bp, op, none⟩) p.kids.length ep) ∧ w'.cell? ⟨w.heap.size + 1, 2, none⟩ = some (.slice (some ⟨bv, ov, none⟩) v.kids.length ev) ∧ w'.cell? ⟨bp, op + k * 6, none⟩ = some (.int .i64 p.kids[k].op) ∧ w'.cell? ⟨bp, op + k * 6 + 1, none⟩ = some (.int .i64 p.kids[k].ctor) ∧ w'.cell? ⟨bp, op + k * 6 + 2, none⟩ = some (.int .i64 p.kids[k].n) ∧ w'.cell? ⟨bp, op + k * 6 + 3, none⟩ = some (.int .i64 p.kids[k].m) ∧ w'.cell? ⟨bp, op + k * 6 + 4, none⟩ = some (.int .i64 p.kids[k].var) ∧ w'.cell? ⟨bp, op + k * 6 + 5, none⟩ = some (.slice D' p.kids[k].kids.length cp) ∧ w'.cell? ⟨bv, ov + k * 3, none⟩ = some (.int .i64 v.kids[k].ctor) ∧ w'.cell? ⟨bv, ov + k * 3 + 1, none⟩ = some (.int .i64 v.kids[k].n) ∧ w'.cell? ⟨bv, ov + k * 3 + 2, none⟩ = some (.slice E' v.kids[k].kids.length cv)) (first | with_reducible exact SQ | go_keep) (first | (go_at_call 77; (with_reducible refine (HCI.out wr.drew HBD.out).mono ?_); intro e1 w1 hq1; obtain ⟨u2, rfl, ho, hn, hb'⟩ := hq1.some_; have HOM := Lib.hid ho; have HN := Lib.hid hn; have hbq : Below wr.heap.size wr w1 := ⟨hb'.os, hb'.tape, hb'.output, hb'.size, hb'.block⟩; have SQ := HKS.out _ hbq; clear hq1 ho hn hb'))
        clear SQ y5 z2
        have hbe := below_aft hb hbq hb.size
        have HRR : Hid (OBr e' w1 0 B u2 (L ++ (M ++ M2))) := by unfold Hid; rw [← List.append_assoc]; exact HOM.out
        have HLM : Hid ((M ++ M2).length ≤ k + 1 + ((p.kids.take (k + 1)).map wP).sum) := by unfold Hid; have a := HLn.out; have c := HN.out; have f := HT.out; rw [List.length_append]; omega
        clear hbq
        go_wp2_with fail
        go_roundw
        case rel => exact ⟨k + 1, by omega, by go_num, _, _, rfl, HRR.out, HCN.out, HLM.out, hbe⟩
        case measure => simp [intOf]; omega
    · have he : k = p.kids.length := by omega
      have hkI : (p.kids.length : Int) ≤ (k : Int) := by omega
      have HE : Hid (catO (kidS d p.kids v.kids) p.kids.length = some M) := by unfold Hid; rw [← he]; exact HC.out
      have HLN : Hid (M.length ≤ 1 + wP p) := by unfold Hid; rw [HSum.out]; have a := HLn.out; rw [he, List.take_length] at a; omega
      clear he
      go_wp2_with fail
      go_ret2
      exact MsQ.yes (HM.out.trans HE.out) HO.out HLN.out hbw
theorem ms_any (l : List Da) : ∀ d, MsC l d
  | 0 => fun n e e' B D E ep ev t p v u L w hs hf hp hv hB hu hN => by rw [shP_zero] at hs; cases hs
  | d + 1 => fun n e e' B D E ep ev t p v u L w hs hf hp hv hB hu hN => by
    have ih := ms_any l d
    rcases own_ops (shP_parts hs).1 with h | h | h | h | h | h
    · exact ms_1 l d ih n e e' B D E ep ev t p v u L w hs hf hp hv hB hu hN h
    · exact ms_2 l d ih n e e' B D E ep ev t p v u L w hs hf hp hv hB hu hN h
    · by_cases h1 : p.n ≤ v.n
      · by_cases h2 : v.n ≤ p.m
        · exact ms_3a l d ih n e e' B D E ep ev t p v u L w hs hf hp hv hB hu hN h1 h2 h
        · exact ms_3c l d ih n e e' B D E ep ev t p v u L w hs hf hp hv hB hu hN h1 h2 h
      · exact ms_3b l d ih n e e' B D E ep ev t p v u L w hs hf hp hv hB hu hN h1 h
    · by_cases h1 : p.ctor = v.ctor
      · exact ms_41 l d ih n e e' B D E ep ev t p v u L w hs hf hp hv hB hu hN h1 h
      · exact ms_40 l d ih n e e' B D E ep ev t p v u L w hs hf hp hv hB hu hN h1 h
    · cases hq : mtS d (p.kids.getD 0 default) v with
      | none => exact ms_51 l d ih n e e' B D E ep ev t p v u L w hs hf hp hv hB hu hN hq h
      | some L0 => exact ms_50 l d ih L0 n e e' B D E ep ev t p v u L w hs hf hp hv hB hu hN hq h
    · exact ms_6 l d ih n e e' B D E ep ev t p v u L w hs hf hp hv hB hu hN h
end Go.Proofs.Yteoopmogklpnoaa
