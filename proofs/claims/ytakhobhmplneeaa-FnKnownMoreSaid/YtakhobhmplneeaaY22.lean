/-
  When a tree is a value of a type: the document's function. No statement is proved here.
-/
import Derived.Test.YtakhobhmplneeaaY18
import Derived.Test.YtakhobhmplneeaaY15
import Derived.Test.YtakhobhmplneeaaY01
import Derived.Test.YtakhobhmplneeaaY21
import Derived.Test.YtakhobhmplneeaaY00
import Derived.Lib.QuietBelow
import Derived.Deep.RegionWith
import Derived.IntWalk
import Derived.Deep.RegionHeld3
namespace Go.Proofs.Ytakhobhmplneeaa
open Go.RowKit Go.Sort Go.Deep
set_option maxRecDepth 100000
set_option linter.unusedVariables false
/-- A value in a block of its own. -/
def VBx (w : World) (b : Nat) (c n : Int) (s : Value) : Prop := w.cell? ⟨b, 0, none⟩ = some (.int .i64 c) ∧ w.cell? ⟨b, 1, none⟩ = some (.int .i64 n) ∧ w.cell? ⟨b, 2, none⟩ = some s
theorem VBx.at_ {w w' : World} {b : Nat} {c n : Int} {s : Value} (h : VBx w b c n s) (hb : Below w.heap.size w w') : VBx w' b c n s :=
  ⟨(hb.cell (p := ⟨b, 0, none⟩) (Go.block_lt_of_cell h.1)).trans h.1, (hb.cell (p := ⟨b, 1, none⟩) (Go.block_lt_of_cell h.2.1)).trans h.2.1, (hb.cell (p := ⟨b, 2, none⟩) (Go.block_lt_of_cell h.2.2)).trans h.2.2⟩
theorem below_aft {w wr w' : World} {B : Nat} (h : Below B w wr) (hb : Below wr.heap.size wr w') (hB : B ≤ wr.heap.size) : Below B w w' := h.trans (hb.mono hB)
def FitC (l : List Da) (d : Nat) (z : Int) : Prop := ∀ (A D : Option Addr) (cap ep e : Nat) (t : Ty) (v : Vl) (w : World), RDas w w.heap.size A l → TyOK l t → RVs e w w.heap.size D v.kids →
  Calls Try.prog 76 #[.slice A l.length cap, .agg #[.int .i64 t.data, .int .i64 t.index], .agg #[.int .i64 v.ctor, .int .i64 v.n, .slice D v.kids.length ep], .int .i64 z] w fun e w' => e = .returned (.bool (fitV l d t v)) ∧ Below w.heap.size w w'
def FitS (l : List Da) (d : Nat) : Prop := FitC l d (d : Nat)
theorem FitC.known {l : List Da} {d : Nat} {z : Int} (h : FitC l d z) (A D : Option Addr) (cap ep e : Nat) (t : Ty) (v : Vl) (b : Bool) (w : World) (hf : fitV l d t v = b) (hr : RDas w w.heap.size A l) (ht : TyOK l t) (hv : RVs e w w.heap.size D v.kids) :
    Calls Try.prog 76 #[.slice A l.length cap, .agg #[.int .i64 t.data, .int .i64 t.index], .agg #[.int .i64 v.ctor, .int .i64 v.n, .slice D v.kids.length ep], .int .i64 z] w fun e w' => e = .returned (.bool b) ∧ Below w.heap.size w w' := by
  rw [← hf]; exact h A D cap ep e t v w hr ht hv
theorem below_box2 {w w0 : World} {o o' : Obj} (h : (w.alloc o).alloc o' = w0) : Below w.heap.size w w0 := by
  subst h; exact ((Below.refl _ _).alloc (Nat.le_refl _) _).alloc (by simp) _
theorem fitS_zero (l : List Da) : FitS l 0 := by
  intro A D cap ep e t v w hr ht hv
  have HB : Hid (∀ o o' : Obj, Below w.heap.size w ((w.alloc o).alloc o')) := fun o o' => ((Below.refl _ _).alloc (Nat.le_refl _) _).alloc (by simp) _
  clear hr ht hv
  go_enter Try.func76, Try.ntmps76
  go_wp2_with fail
  go_ret
  exact ⟨rfl, HB.out _ _⟩
theorem fitS_int (l : List Da) (d : Nat) (hd : d < 100) (A D : Option Addr) (cap ep : Nat) (t : Ty) (v : Vl) (w : World) (h1 : t.data = -1) (hl : v.kids.length ≤ maxLen) :
    Calls Try.prog 76 #[.slice A l.length cap, .agg #[.int .i64 t.data, .int .i64 t.index], .agg #[.int .i64 v.ctor, .int .i64 v.n, .slice D v.kids.length ep], .int .i64 ((d + 1 : Nat) : Int)] w fun e w' => e = .returned (.bool (fitV l (d + 1) t v)) ∧ Below w.heap.size w w' := by
  have HB : Hid (∀ o o' : Obj, Below w.heap.size w ((w.alloc o).alloc o')) := fun o o' => ((Below.refl _ _).alloc (Nat.le_refl _) _).alloc (by simp) _
  have HF := Lib.hid (fit_int (l := l) (d := d) (v := v) h1)
  have q1 := ieq_t h1
  generalize hz : ((d + 1 : Nat) : Int) = z
  have hz0 : 1 ≤ z := by omega
  have hz1 : decide (z < 1) = false := by simpa using hz0
  clear h1 hz
  unfold maxLen at hl
  by_cases a1 : v.ctor = -1
  · have p1 := ieq_t a1
    by_cases a2 : 0 ≤ v.n
    · by_cases a3 : v.n ≤ 9
      · by_cases a4 : v.kids.length = 0
        · have p4 := ieq_t (show (v.kids.length : Int) = 0 by omega)
          rw [decide_eq_true a1, decide_eq_true a2, decide_eq_true a3, decide_eq_true a4] at HF
          clear a1 a4
          go_enter Try.func76, Try.ntmps76
          go_wp2_with fail
          go_ret
          exact ⟨ret_bool (by rw [HF.out]; rfl), HB.out _ _⟩
        · have p4 := ieq_f (show ¬ (v.kids.length : Int) = 0 by omega)
          rw [decide_eq_false a4] at HF
          clear a1 a4
          go_enter Try.func76, Try.ntmps76
          go_wp2_with fail
          go_ret
          exact ⟨ret_bool (by rw [HF.out]; simp), HB.out _ _⟩
      · have p3 : decide (v.n ≤ 9) = false := decide_eq_false a3
        rw [decide_eq_false a3] at HF
        clear a1
        go_enter Try.func76, Try.ntmps76
        go_wp2_with fail
        go_ret
        exact ⟨ret_bool (by rw [HF.out]; simp), HB.out _ _⟩
    · have p2 : decide (0 ≤ v.n) = false := decide_eq_false a2
      rw [decide_eq_false a2] at HF
      clear a1
      go_enter Try.func76, Try.ntmps76
      go_wp2_with fail
      go_ret
      exact ⟨ret_bool (by rw [HF.out]; simp), HB.out _ _⟩
  · have p1 := ieq_f a1
    rw [decide_eq_false a1] at HF
    clear a1
    go_enter Try.func76, Try.ntmps76
    go_wp2_with fail
    go_ret
    exact ⟨ret_bool (by rw [HF.out]; simp), HB.out _ _⟩
set_option maxHeartbeats 3000000 in
theorem fitS_step (l : List Da) (d : Nat) (hd : d < 100) (ih : FitS l d) : FitS l (d + 1) := by
  intro A D cap ep e t v w hr ht hv
  have hl := hv.1
  by_cases h1 : t.data = -1
  · exact fitS_int l d hd A D cap ep t v w h1 hl
  have q1 := ieq_f h1
  have H1 := Lib.hid h1
  have Hr := Lib.hid hr
  have HT := Lib.hid ht
  have HV := Lib.hid hv
  have IH := Lib.hid ih
  unfold maxLen at hl
  generalize hz : ((d + 1 : Nat) : Int) = z
  have hz0 : 1 ≤ z := by omega
  have hz2 : z ≤ 101 := by omega
  have hz1 : decide (z < 1) = false := by simpa using hz0
  have IHz : Hid (FitC l d (z - 1)) := by unfold Hid; rw [show z - 1 = (d : Int) by omega]; exact ih
  clear h1 hr ht hv ih hz IH
  generalize hw0 : (w.alloc (.cells #[.int .i64 t.data, .int .i64 t.index] 25)).alloc (.cells #[.int .i64 v.ctor, .int .i64 v.n, .slice D v.kids.length ep] 28) = w0
  have hb0 := below_box2 hw0
  have HXT : Hid (Bx w0 w.heap.size t) := by rw [← hw0]; exact ⟨by simp [go_sem], by simp [go_sem]⟩
  have HXV : Hid (VBx w0 (w.heap.size + 1) v.ctor v.n (.slice D v.kids.length ep)) := by rw [← hw0]; exact ⟨by simp [go_sem], by simp [go_sem], by simp [go_sem]⟩
  have HW := Lib.hid hw0
  clear hw0
  obtain ⟨x0, x1⟩ := HXT.out
  obtain ⟨y0, y1, y2⟩ := HXV.out
  by_cases hn : v.n = 0
  · have qn : (v.n != 0) = false := by simp [hn]
    by_cases hc : v.ctor ∈ ctR l t
    · have HC := Lib.hid hc
      have HD := Lib.hid (dec_t hc)
      by_cases hk : v.kids.length = (agR l t v.ctor).length
      · have HF := Lib.hid (fit_go (d := d) H1.out hn hc hk)
        have hm3 := agR_len l t v.ctor
        have HOK := Lib.hid (agR_ok hc)
        have HK := Lib.hid (fun (i : Nat) (h : i < (agR l t v.ctor).length) (h' : i < v.kids.length) => kidV_at (l := l) (d := d) h h')
        have HAG := Lib.hid (l1Args_all A l cap t v.ctor · · hc)
        generalize hats : agR l t v.ctor = ats at HF hm3 HOK HK HAG hk
        have hkI : ((v.kids.length : Int) != (ats.length : Int)) = false := by simp [hk]
        have HKL := Lib.hid hk
        clear hn hc hats hk
        go_enter Try.func76, Try.ntmps76
        go_wp2_with fail
        rw [HW.out]
        go_region_with (first | (go_at_call 48; refine (l1Ctors_all _ l _ t _ (by exact Hr.out.at_ hb0.drew) HT.out).mono ?_; rintro e w1 ⟨v1, rfl, ho, hb1'⟩; have hb1 : Below w0.heap.size w0 w1 := ⟨hb1'.os, hb1'.tape, hb1'.output, hb1'.size, hb1'.block⟩; obtain ⟨A1, c1, rfl, hri⟩ := ho.form (by have := ctR_len l t; unfold maxLen; omega); have HRI := Lib.hid hri; have HXV1 := Lib.hid (HXV.out.at_ hb1); obtain ⟨z0, z1, z2⟩ := HXV1.out; clear hri ho hb1') | (go_at_call 77; refine (has_any _ _ _ _ _ HRI.out).mono ?_; rw [HD.out]; rintro e w2 ⟨rfl, rfl⟩))
        all_goals
          have HXT1 := Lib.hid (HXT.out.at_ hb1)
          obtain ⟨u0, u1⟩ := HXT1.out
          have hb1w := below_aft hb0 hb1 hb0.size
          clear x0 x1 y0 y1 y2
          go_wp2_with (go_at_call 51; refine (HAG.out _ (by exact Hr.out.at_ hb1w)).mono ?_; rintro e w3 ⟨v3, rfl, ho3, hb3'⟩; obtain ⟨A3, c3, rfl, hr3⟩ := ho3.form (by unfold maxLen; omega); have HR3 := Lib.hid hr3; have HXV3 := Lib.hid (HXV1.out.at_ hb3'); obtain ⟨z0', z1', z2'⟩ := HXV3.out; have hb3 := below_aft hb1w hb3' hb1w.size; clear hr3 ho3 hb3')
          go_loopw [10] (fun i wr => ∃ k : Nat, k ≤ ats.length ∧ i = .int .i64 k ∧ Hid (upto (kidV l d ats v.kids) k = true) ∧ Below w3.heap.size w3 wr) (fun i _ => ats.length - (intOf i).toNat)
          case atStart => exact ⟨0, by omega, rfl, rfl, Below.refl _ _⟩
          case round =>
            obtain ⟨k, hk, rfl, HU, hb⟩ := hrel
            clear u0 u1 z0 z1 z2 z0' z1' z2'
            have hbw : Below w.heap.size w wr := below_aft hb3 hb hb3.size
            have HXVr := Lib.hid (HXV3.out.at_ hb)
            obtain ⟨f0, f1, f2⟩ := HXVr.out
            by_cases hlt : k < ats.length
            · have hkl : k < v.kids.length := by rw [HKL.out]; exact hlt
              obtain ⟨g, o, rfl, hgB, t0, t1⟩ := (HR3.out.below hb (Nat.le_refl _)).2 k hlt
              obtain ⟨b, off, rfl, hbB, hvk⟩ := (HV.out.below hbw (Nat.le_refl _)).2 k hkl
              obtain ⟨e', he', D', cp, c0, c1, c2, hm⟩ := hvk.parts
              have d0 := cell_regrown t0
              have d1 := cell_regrown t1
              have d2 := cell_regrown c0
              have d3 := cell_regrown c1
              have d4 := cell_regrown c2
              have d5 := cell_regrown f2
              have Hm : Hid (RVs e' wr wr.heap.size D' v.kids[k].kids) := hm.keep (fun _ _ => rfl) hbw.size
              have Hrr : Hid (RDas wr wr.heap.size A l) := Hr.out.at_ hbw
              have HTk := Lib.hid (HOK.out _ (List.getElem_mem hlt))
              have HKk := Lib.hid (HK.out k hlt hkl)
              have hi : (k : Int) < (ats.length : Int) := by omega
              have hi2 : (k : Int) < (v.kids.length : Int) := by omega
              have hzs : IntKind.i64.wrap (z - 1) = z - 1 := IntWalk.i64_in _ (by omega)
              clear c0 c1 c2 t0 t1 f0 f1 f2 hm hvk he'
              by_cases hf : fitV l d ats[k] v.kids[k] = true
              · have HFk := Lib.hid hf
                have HUk : Hid (upto (kidV l d ats v.kids) (k + 1) = true) := upto_t HU.out (by rw [HKk.out]; exact hf)
                clear hf
                go_wp2_with fail
                refine wp_region_quiet_below (by kernel_rfl) (by kernel_rfl) ?_
                repeat (quiet_step (exact Calls.regrown_of (IHz.out.known _ _ _ _ _ _ _ _ _ HFk.out (Hrr.out.at_ (below_regrown wr _ _)) HTk.out (Hm.out.at_ (below_regrown wr _ _)))))
                refine wpQuiet_nil ?_
                intro _ hw'
                obtain ⟨⟨dq, osq⟩, hw''⟩ := hw'
                subst hw''
                have hb2 := hb.trans ((below_regrown wr dq osq).mono hb.size)
                clear d0 d1 d2 d3 d4 d5
                go_wp2_with fail
                go_roundw
                case rel => exact ⟨k + 1, by omega, by go_num, HUk, hb2⟩
                case measure => simp [intOf]; omega
              · have hf' : fitV l d ats[k] v.kids[k] = false := by simpa using hf
                have HFk := Lib.hid hf'
                have HUk := Lib.hid (upto_f (f := kidV l d ats v.kids) hlt (by rw [HKk.out]; exact hf'))
                clear hf hf'
                go_wp2_with fail
                refine wp_region_quiet_below (by kernel_rfl) (by kernel_rfl) ?_
                repeat (quiet_step (exact Calls.regrown_of (IHz.out.known _ _ _ _ _ _ _ _ _ HFk.out (Hrr.out.at_ (below_regrown wr _ _)) HTk.out (Hm.out.at_ (below_regrown wr _ _)))))
                refine wpQuiet_nil ?_
                intro _ hw'
                obtain ⟨⟨dq, osq⟩, hw''⟩ := hw'
                subst hw''
                have hb2 := hbw.trans ((below_regrown wr dq osq).mono hbw.size)
                clear d0 d1 d2 d3 d4 d5
                go_wp2_with fail
                go_ret
                exact ⟨ret_bool (by rw [HF.out, HUk.out]), hb2⟩
            · have he : k = ats.length := by omega
              have HE : Hid (fitV l (d + 1) t v = true) := by unfold Hid; rw [HF.out, ← he]; exact HU.out
              clear he
              go_wp2_with fail
              go_ret
              exact ⟨ret_bool HE.out.symm, hbw⟩
      · have HF := Lib.hid (fit_len (d := d) H1.out hk)
        have hm3 := agR_len l t v.ctor
        have HAG := Lib.hid (l1Args_all A l cap t v.ctor · · hc)
        generalize hats : agR l t v.ctor = ats at HF hm3 HAG hk
        have hkI : ((v.kids.length : Int) != (ats.length : Int)) = true := by simp; omega
        clear hn hc hats hk
        go_enter Try.func76, Try.ntmps76
        go_wp2_with fail
        rw [HW.out]
        go_region_with (first | (go_at_call 48; refine (l1Ctors_all _ l _ t _ (by exact Hr.out.at_ hb0.drew) HT.out).mono ?_; rintro e w1 ⟨v1, rfl, ho, hb1'⟩; have hb1 : Below w0.heap.size w0 w1 := ⟨hb1'.os, hb1'.tape, hb1'.output, hb1'.size, hb1'.block⟩; obtain ⟨A1, c1, rfl, hri⟩ := ho.form (by have := ctR_len l t; unfold maxLen; omega); have HRI := Lib.hid hri; have HXV1 := Lib.hid (HXV.out.at_ hb1); obtain ⟨z0, z1, z2⟩ := HXV1.out; clear hri ho hb1') | (go_at_call 77; refine (has_any _ _ _ _ _ HRI.out).mono ?_; rw [HD.out]; rintro e w2 ⟨rfl, rfl⟩))
        all_goals
          have HXT1 := Lib.hid (HXT.out.at_ hb1)
          obtain ⟨u0, u1⟩ := HXT1.out
          have hb1w := below_aft hb0 hb1 hb0.size
          clear x0 x1 y0 y1 y2
          go_wp2_with (go_at_call 51; refine (HAG.out _ (by exact Hr.out.at_ hb1w)).mono ?_; rintro e w3 ⟨v3, rfl, ho3, hb3'⟩; obtain ⟨A3, c3, rfl, hr3⟩ := ho3.form (by unfold maxLen; omega); have HXV3 := Lib.hid (HXV1.out.at_ hb3'); obtain ⟨z0', z1', z2'⟩ := HXV3.out; have hb3 := below_aft hb1w hb3' hb1w.size; clear hr3 ho3 hb3')
          go_ret
          exact ⟨ret_bool HF.out.symm, hb3⟩
    · have HF := Lib.hid (fit_ctor (d := d) H1.out hc)
      have HD := Lib.hid (dec_f hc)
      clear hn hc
      go_enter Try.func76, Try.ntmps76
      go_wp2_with fail
      rw [HW.out]
      go_region_with (first | (go_at_call 48; refine (l1Ctors_all _ l _ t _ (by exact Hr.out.at_ hb0.drew) HT.out).mono ?_; rintro e w1 ⟨v1, rfl, ho, hb1'⟩; have hb1 : Below w0.heap.size w0 w1 := ⟨hb1'.os, hb1'.tape, hb1'.output, hb1'.size, hb1'.block⟩; obtain ⟨A1, c1, rfl, hri⟩ := ho.form (by have := ctR_len l t; unfold maxLen; omega); have HRI := Lib.hid hri; have HXV1 := Lib.hid (HXV.out.at_ hb1); obtain ⟨z0, z1, z2⟩ := HXV1.out; clear hri ho hb1') | (go_at_call 77; refine (has_any _ _ _ _ _ HRI.out).mono ?_; rw [HD.out]; rintro e w2 ⟨rfl, rfl⟩))
      all_goals
        go_wp2_with fail
        go_ret
        exact ⟨ret_bool HF.out.symm, below_aft hb0 hb1 hb0.size⟩
  · have qn : (v.n != 0) = true := by simpa using hn
    have HF := Lib.hid (fit_n (l := l) (d := d) H1.out hn)
    clear hn
    go_enter Try.func76, Try.ntmps76
    go_wp2_with fail
    rw [HW.out]
    go_quiet (fail)
    go_wp2_with fail
    go_ret
    exact ⟨ret_bool HF.out.symm, below_drawn hb0 _⟩
end Go.Proofs.Ytakhobhmplneeaa
/-
  The value of least depth: the document's function. No statement is proved here.
-/
namespace Go.Proofs.Ytakhobhmplneeaa
open Go.RowKit Go.Sort Go.Deep
set_option maxRecDepth 100000
set_option linter.unusedVariables false
theorem most_mdp {l : List Da} {T : List Int} {t : Ty} {x : Int} (hw : WorldOK l) (hS : St l T (l.length * 4 + 1) 0 0) (hx : x ∈ ctR l t) : mostL T (agR l t x) = mdp l (agR l t x) := by
  have hin : ∀ a ∈ agR l t x, a ∈ tysN l.length := fun a ha => ok_tys (agR_ok hx a ha)
  have hd : ∀ a ∈ agR l t x, dep T a = ldep l a := fun a ha => dep_ldep hw hS (hin a ha)
  generalize agR l t x = L at hin hd
  by_cases h : ∀ a ∈ L, Inh l a
  · rw [mdp_yes h, ← most_yes (fun j hj => by rw [hd _ (List.getElem_mem hj)]; have := ldep_yes (h _ (List.getElem_mem hj)); omega)]
    have : ∀ k, k ≤ L.length → maxTo T L k = mxT (ldep l) L k := fun k => by
      induction k with
      | zero => intro _; rfl
      | succ k ih =>
        intro hk
        rw [maxTo_succ hk, mxT_succ hk, ih (by omega), hd _ (List.getElem_mem hk)]
        split <;> omega
    rw [this _ (Nat.le_refl _)]
  · rw [mdp_no h]
    obtain ⟨a, ha, hi⟩ : ∃ a, a ∈ L ∧ ¬ Inh l a := Classical.byContradiction fun hc => h (fun a ha => Classical.byContradiction fun hn => hc ⟨a, ha, hn⟩)
    obtain ⟨j, hj, rfl⟩ := List.getElem_of_mem ha
    exact (most_no hj (by rw [hd _ ha]; exact ldep_no (hin _ ha) hi)).symm
theorem St.bd5 {l : List Da} {T : List Int} (h : St l T (l.length * 4 + 1) 0 0) (hl : l.length ≤ 4) : ∀ x ∈ T, 0 ≤ x ∧ x ≤ 5000 := fun x hx => by have := h.bd x hx; omega
end Go.Proofs.Ytakhobhmplneeaa
/-
  Vl trees copied into blocks of their own: no part has a block of another part. No statement is proved here.
-/
namespace Go.Proofs.Ytakhobhmplneeaa
open Go.RowKit
set_option maxRecDepth 100000
set_option linter.unusedVariables false
theorem infoOVc : (Try.prog.info? 28).map (fun i => (i.zero, i.size, i.bytes)) = some (some (.agg #[.int .i64 0, .int .i64 0, .slice none 0 0]), 3, 40) := by kernel_rfl
end Go.Proofs.Ytakhobhmplneeaa
