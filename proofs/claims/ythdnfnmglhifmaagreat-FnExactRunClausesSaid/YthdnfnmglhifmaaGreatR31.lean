/-
  GuardHolds of the document. No statement is proved here.
-/
import Derived.Test.YthdnfnmglhifmaaGreatR30
import Derived.Deep.RegionHeld3
namespace Go.Proofs.YthdnfnmglhifmaaGreat
open Go.RowKit Go.Sort Go.Deep
set_option maxRecDepth 100000
set_option linter.unusedVariables false
set_option maxHeartbeats 6400000 in
theorem gh_spec (d : Nat) (A : Option Addr) (l : List Bn) (cap : Nat) (g0 g1 g2 : Int) (w : World) (hr : RBs d w w.heap.size A l) :
    Calls Tryz.prog 133 #[.agg #[.int .i64 g0, .int .i64 g1, .int .i64 g2], .slice A l.length cap] w fun e w' => e = .returned (.bool (ghB g0 g1 g2 l)) ∧ Below w.heap.size w w' := by
  by_cases h0 : g0 = 0
  · have u0 := ieq_t h0
    have HE : Hid (ghB g0 g1 g2 l = true) := if_pos h0
    clear h0
    go_enter Tryz.func133, Tryz.ntmps133
    go_wp2_with fail
    go_ret
    exact ⟨ret_bool HE.out.symm, (Below.refl _ _).alloc (Nat.le_refl _) _⟩
  · have u0 := ieq_f h0
    have HE : Hid (ghB g0 g1 g2 l = fndB g0 g1 g2 l) := if_neg h0
    have hn := hr.1
    unfold maxLen at hn
    have Hr := Lib.hid hr
    clear hr
    generalize hw0 : w.alloc (.cells #[.int .i64 g0, .int .i64 g1, .int .i64 g2] 55) = w0
    have hb0 : Below w.heap.size w w0 := by rw [← hw0]; exact (Below.refl _ _).alloc (Nat.le_refl _) _
    have HX : Hid (GBx w0 w.heap.size g0 g1 g2) := by rw [← hw0]; exact ⟨by simp [go_sem], by simp [go_sem], by simp [go_sem]⟩
    have HW := Lib.hid hw0
    clear hw0
    obtain ⟨x0, x1, x2⟩ := HX.out
    go_enter Tryz.func133, Tryz.ntmps133
    go_wp2_with fail
    rw [HW.out]
    go_loopw [5] (fun i wr => ∃ k : Nat, k ≤ l.length ∧ i = .int .i64 k ∧ NoB l g1 k ∧ Below w0.heap.size w0 wr) (fun i _ => l.length - (intOf i).toNat)
    case atStart => exact ⟨0, by omega, rfl, NoB.zero _ _, Below.refl _ _⟩
    case round =>
      obtain ⟨k, hk, rfl, hno, hb0r⟩ := hrel
      obtain ⟨y0, y1, y2⟩ := HX.out.at_ hb0r
      have hb := below_aft hb0 hb0r hb0.size
      clear x0 x1 x2
      by_cases hlt : k < l.length
      · obtain ⟨b, off, rfl, hbB, A', cp, c0, c1, c2, c3, hm⟩ := (Hr.out.below hb (Nat.le_refl _)).2 k hlt
        have hkI : (k : Int) < (l.length : Int) := by omega
        have c2' : wr.cell? ⟨b, off + k * 4 + 1 + 1, none⟩ = some (.int .i64 l[k].val.n) := c2
        have d0 := cell_regrown c0
        have d1 := cell_regrown c1
        have d2 := cell_regrown c2
        have d2' := cell_regrown c2'
        have z0 := cell_regrown y0
        have z1 := cell_regrown y1
        have z2 := cell_regrown y2
        clear c0 c1 c2 c2' c3 hm y0 y1 y2
        by_cases hv : l[k].var = g1
        · have HF : Hid (fndB g0 g1 g2 l = okB g0 g2 l[k].val) := fnd_at hlt hno hv
          have qv : (l[k].var != g1) = false := by simp [hv]
          clear hno hv
          by_cases hc : l[k].val.ctor = -1
          · have u := ieq_t hc
            by_cases h1 : g0 = 1
            · have u1 := ieq_t h1
              have e1 : okB g0 g2 l[k].val = decide (l[k].val.n < g2) := ok_less hc h1
              by_cases hn2 : l[k].val.n < g2
              · have q2 : decide (l[k].val.n < g2) = true := decide_eq_true hn2
                have HF2 : Hid (ghB g0 g1 g2 l = true) := by unfold Hid; rw [HE.out, HF.out]; rw [e1, q2]
                go_wp2_with fail
                refine wp_region_quiet_below (by kernel_rfl) (by kernel_rfl) ?_
                repeat (quiet_step (fail))
                refine wpQuiet_nil ?_
                intro _ hw'
                obtain ⟨⟨dq, osq⟩, hw''⟩ := hw'
                subst hw''
                have hb2 := hb.trans ((below_regrown wr dq osq).mono hb.size)
                go_wp2_with fail
                go_ret
                exact ⟨ret_bool HF2.out.symm, hb2⟩
              · have q2 : decide (l[k].val.n < g2) = false := decide_eq_false hn2
                have u2 : (g0 == 2) = false := ieq_f (by omega)
                have HF2 : Hid (ghB g0 g1 g2 l = false) := by unfold Hid; rw [HE.out, HF.out]; rw [e1, q2]
                go_wp2_with fail
                refine wp_region_quiet_below (by kernel_rfl) (by kernel_rfl) ?_
                repeat (quiet_step (fail))
                refine wpQuiet_nil ?_
                intro _ hw'
                obtain ⟨⟨dq, osq⟩, hw''⟩ := hw'
                subst hw''
                have hb2 := hb.trans ((below_regrown wr dq osq).mono hb.size)
                go_wp2_with fail
                go_ret
                exact ⟨ret_bool HF2.out.symm, hb2⟩
            · have u1 := ieq_f h1
              by_cases h2 : g0 = 2
              · have u2 := ieq_t h2
                have e1 : okB g0 g2 l[k].val = decide (l[k].val.n = g2) := ok_equal hc h2
                by_cases hn2 : l[k].val.n = g2
                · have q2 := ieq_t hn2
                  have e2 : decide (l[k].val.n = g2) = true := decide_eq_true hn2
                  have HF2 : Hid (ghB g0 g1 g2 l = true) := by unfold Hid; rw [HE.out, HF.out]; rw [e1, e2]
                  go_wp2_with fail
                  refine wp_region_quiet_below (by kernel_rfl) (by kernel_rfl) ?_
                  repeat (quiet_step (fail))
                  refine wpQuiet_nil ?_
                  intro _ hw'
                  obtain ⟨⟨dq, osq⟩, hw''⟩ := hw'
                  subst hw''
                  have hb2 := hb.trans ((below_regrown wr dq osq).mono hb.size)
                  go_wp2_with fail
                  go_ret
                  exact ⟨ret_bool HF2.out.symm, hb2⟩
                · have q2 := ieq_f hn2
                  have e2 : decide (l[k].val.n = g2) = false := decide_eq_false hn2
                  have HF2 : Hid (ghB g0 g1 g2 l = false) := by unfold Hid; rw [HE.out, HF.out]; rw [e1, e2]
                  go_wp2_with fail
                  refine wp_region_quiet_below (by kernel_rfl) (by kernel_rfl) ?_
                  repeat (quiet_step (fail))
                  refine wpQuiet_nil ?_
                  intro _ hw'
                  obtain ⟨⟨dq, osq⟩, hw''⟩ := hw'
                  subst hw''
                  have hb2 := hb.trans ((below_regrown wr dq osq).mono hb.size)
                  go_wp2_with fail
                  go_ret
                  exact ⟨ret_bool HF2.out.symm, hb2⟩
              · have u2 := ieq_f h2
                have e1 : okB g0 g2 l[k].val = false := ok_unk (fun h => h.elim h1 h2)
                have HF2 : Hid (ghB g0 g1 g2 l = false) := by unfold Hid; rw [HE.out, HF.out]; exact e1
                go_wp2_with fail
                refine wp_region_quiet_below (by kernel_rfl) (by kernel_rfl) ?_
                repeat (quiet_step (fail))
                refine wpQuiet_nil ?_
                intro _ hw'
                obtain ⟨⟨dq, osq⟩, hw''⟩ := hw'
                subst hw''
                have hb2 := hb.trans ((below_regrown wr dq osq).mono hb.size)
                go_wp2_with fail
                go_ret
                exact ⟨ret_bool HF2.out.symm, hb2⟩
          · have u := ieq_f hc
            have e1 : okB g0 g2 l[k].val = false := ok_ctor hc
            have HF2 : Hid (ghB g0 g1 g2 l = false) := by unfold Hid; rw [HE.out, HF.out]; exact e1
            go_wp2_with fail
            refine wp_region_quiet_below (by kernel_rfl) (by kernel_rfl) ?_
            repeat (quiet_step (fail))
            refine wpQuiet_nil ?_
            intro _ hw'
            obtain ⟨⟨dq, osq⟩, hw''⟩ := hw'
            subst hw''
            have hb2 := hb.trans ((below_regrown wr dq osq).mono hb.size)
            go_wp2_with fail
            go_ret
            exact ⟨ret_bool HF2.out.symm, hb2⟩
        · have HN := Lib.hid (hno.step hlt hv)
          have qv : (l[k].var != g1) = true := by simp [hv]
          clear hno hv
          go_wp2_with fail
          refine wp_region_quiet_below (by kernel_rfl) (by kernel_rfl) ?_
          repeat (quiet_step (fail))
          refine wpQuiet_nil ?_
          intro _ hw'
          obtain ⟨⟨dq, osq⟩, hw''⟩ := hw'
          subst hw''
          have hb2 := hb0r.trans ((below_regrown wr dq osq).mono hb0r.size)
          go_wp2_with fail
          go_roundw
          case rel => exact ⟨k + 1, by omega, by go_num, HN.out, hb2⟩
          case measure => simp [intOf]; omega
      · have HF : Hid (ghB g0 g1 g2 l = false) := by unfold Hid; rw [HE.out]; exact fnd_none (fun j hj hjk => hno j hj (by omega))
        clear hno
        go_wp2_with fail
        go_ret
        exact ⟨ret_bool HF.out.symm, hb⟩
end Go.Proofs.YthdnfnmglhifmaaGreat
/-
  RunClauses of the document. No statement is proved here.
-/
namespace Go.Proofs.YthdnfnmglhifmaaGreat
open Go.RowKit Go.Sort Go.Deep
set_option maxRecDepth 100000
set_option linter.unusedVariables false
def RunT (d : Nat) (o : Int × List Bn) (w : World) (E : Ending) (w' : World) : Prop := ∃ A S c, E = .returned (.tuple #[.int .i64 o.1, .slice A S.length c]) ∧ o.2 = S ∧ RBs d w' w'.heap.size A S ∧ Below w.heap.size w w'
theorem RunT.of {d : Nat} {o : Int × List Bn} {w w' : World} {A : Option Addr} {c : Nat} {r : Int} {S : List Bn} (h : o = (r, S)) (hr : RBs d w' w'.heap.size A S) (hb : Below w.heap.size w w') : RunT d o w (.returned (.tuple #[.int .i64 r, .slice A S.length c])) w' := by subst h; exact ⟨A, S, c, rfl, rfl, hr, hb⟩
theorem RunT.none {d : Nat} {o : Int × List Bn} {w w' : World} {A : Option Addr} {c : Nat} (h : o = (-1, [])) (hb : Below w.heap.size w w') : RunT d o w (.returned (.tuple #[.int .i64 (-1), .slice A 0 c])) w' := by subst h; exact ⟨A, [], c, rfl, rfl, RBs.nil, hb⟩
set_option maxHeartbeats 6400000 in
theorem l4Run_any (l : List Da) (t : Ty) (C E : Option Addr) (ccap ev d e : Nat) (L : List Cn) (v : Vl) (w : World) (hc : RCs d w w.heap.size C L) (hv : RVs e w w.heap.size E v.kids) (hL : ∀ x ∈ L, ckB l t x = true) (hV : isV l t v = true) :
    Calls Tryz.prog 73 #[.slice C L.length ccap, .agg #[.int .i64 v.ctor, .int .i64 v.n, .slice E v.kids.length ev]] w (RunT e (runF v L 0) w) := by
  have hn := hc.1
  unfold maxLen at hn
  have HC := Lib.hid hc
  have HV := Lib.hid hv
  have HL := Lib.hid hL
  obtain ⟨hfv, h61⟩ := isV_parts hV
  have HF := Lib.hid hfv
  have H61 := Lib.hid h61
  clear hc hv hL hV hfv h61
  generalize hw0 : w.alloc (.cells #[.int .i64 v.ctor, .int .i64 v.n, .slice E v.kids.length ev] 31) = w0
  have hb0 : Below w.heap.size w w0 := by rw [← hw0]; exact (Below.refl _ _).alloc (Nat.le_refl _) _
  have HXV : Hid (VBx w0 w.heap.size v.ctor v.n (.slice E v.kids.length ev)) := by rw [← hw0]; exact ⟨by simp [go_sem], by simp [go_sem], by simp [go_sem]⟩
  have HW := Lib.hid hw0
  clear hw0
  go_enter Tryz.func73, Tryz.ntmps73
  go_wp2_with fail
  rw [HW.out]
  go_loopw [6] (fun i wr => ∃ k : Nat, k ≤ L.length ∧ i = .int .i64 k ∧ Hid (NoF v L k) ∧ Below w0.heap.size w0 wr) (fun i _ => L.length - (intOf i).toNat)
  case atStart => exact ⟨0, by omega, rfl, NoF.zero, Below.refl _ _⟩
  case round =>
    obtain ⟨k, hk, rfl, hno, hbr⟩ := hrel
    have hb := below_aft hb0 hbr hb0.size
    by_cases hlt : k < L.length
    · obtain ⟨g, off, rfl, hbB, A', cp, c0, c1, c2, c3, c4, c5, c6, c7, c8, hm⟩ := (HC.out.below hb (Nat.le_refl _)).2 k hlt
      have hkI : (k : Int) < (L.length : Int) := by omega
      have hsb := hb.size
      have hgr : g < wr.heap.size := by omega
      have hpv := ck_pv (HL.out _ (List.getElem_mem hlt))
      obtain ⟨hsh, h60⟩ := pvT_sh hpv
      have HMS : Hid (∀ W, Below wr.heap.size wr W → Calls Tryz.prog 62 #[.slice none 0 0, .agg #[.int .i64 L[k].pat.op, .int .i64 L[k].pat.ctor, .int .i64 L[k].pat.n, .int .i64 L[k].pat.m, .int .i64 L[k].pat.var, .slice A' L[k].pat.kids.length cp], .agg #[.int .i64 v.ctor, .int .i64 v.n, .slice E v.kids.length ev]] W (MsQ e w.heap.size (1 + wP L[k].pat) [] (mtS 10 L[k].pat v) W)) := fun W h => ms_any l 10 10 d e w.heap.size A' E cp ev t L[k].pat v (.slice none 0 0) [] W hsh HF.out (hm.keep (fun q hq => h.cell (p := q) (by omega)) (Nat.le_refl _)) (HV.out.keep (fun q hq => (below_aft hb h hb.size).cell (p := q) (by omega)) (Nat.le_refl _)) (by have := (below_aft hb h hb.size).size; omega) (OBr.nil _ _ _ _) (by simp; omega)
      have HKS : Hid (∀ W, Below wr.heap.size wr W → W.cell? ⟨g, off + k * 9, none⟩ = some (.int .i64 L[k].pat.op) ∧ W.cell? ⟨g, off + k * 9 + 1, none⟩ = some (.int .i64 L[k].pat.ctor) ∧ W.cell? ⟨g, off + k * 9 + 2, none⟩ = some (.int .i64 L[k].pat.n) ∧ W.cell? ⟨g, off + k * 9 + 3, none⟩ = some (.int .i64 L[k].pat.m) ∧ W.cell? ⟨g, off + k * 9 + 4, none⟩ = some (.int .i64 L[k].pat.var) ∧ W.cell? ⟨g, off + k * 9 + 5, none⟩ = some (.slice A' L[k].pat.kids.length cp) ∧ W.cell? ⟨w.heap.size, 0, none⟩ = some (.int .i64 v.ctor) ∧ W.cell? ⟨w.heap.size, 1, none⟩ = some (.int .i64 v.n) ∧ W.cell? ⟨w.heap.size, 2, none⟩ = some (.slice E v.kids.length ev)) := fun W h => by
        obtain ⟨z0, z1, z2⟩ := HXV.out.at_ (below_aft hbr h hbr.size)
        exact ⟨(h.cell (p := ⟨g, _, none⟩) hgr).trans c0, (h.cell (p := ⟨g, _, none⟩) hgr).trans c1, (h.cell (p := ⟨g, _, none⟩) hgr).trans c2, (h.cell (p := ⟨g, _, none⟩) hgr).trans c3, (h.cell (p := ⟨g, _, none⟩) hgr).trans c4, (h.cell (p := ⟨g, _, none⟩) hgr).trans c5, z0, z1, z2⟩
      have HKG : Hid (∀ W, Below wr.heap.size wr W → W.cell? ⟨g, off + k * 9 + 6, none⟩ = some (.int .i64 L[k].g0) ∧ W.cell? ⟨g, off + k * 9 + 6 + 1, none⟩ = some (.int .i64 L[k].g1) ∧ W.cell? ⟨g, off + k * 9 + 6 + 2, none⟩ = some (.int .i64 L[k].g2)) := fun W h => ⟨(h.cell (p := ⟨g, _, none⟩) hgr).trans c6, (h.cell (p := ⟨g, _, none⟩) hgr).trans c7, (h.cell (p := ⟨g, _, none⟩) hgr).trans c8⟩
      have HPL : Hid (wP L[k].pat ≤ 60) := by unfold Hid; omega
      clear c0 c1 c2 c3 c4 c5 c6 c7 c8 hm hsh h60
      have SQ := HKS.out wr.drew (Below.refl _ wr).drew
      cases hM : mtS 10 L[k].pat v with
      | none =>
        rw [hM] at HMS
        have HN := Lib.hid (hno.out.step hlt (fit_no hM))
        clear hM hno
        go_wp2_with fail
        go_region_held3 (fun w' => w'.cell? ⟨g, off + k * 9, none⟩ = some (.int .i64 L[k].pat.op) ∧ w'.cell? ⟨g, off + k * 9 + 1, none⟩ = some (.int .i64 L[k].pat.ctor) ∧ w'.cell? ⟨g, off + k * 9 + 2, none⟩ = some (.int .i64 L[k].pat.n) ∧ w'.cell? ⟨g, off + k * 9 + 3, none⟩ = some (.int .i64 L[k].pat.m) ∧ w'.cell? ⟨g, off + k * 9 + 4, none⟩ = some (.int .i64 L[k].pat.var) ∧ w'.cell? ⟨g, off + k * 9 + 5, none⟩ = some (.slice A' L[k].pat.kids.length cp) ∧ w'.cell? ⟨w.heap.size, 0, none⟩ = some (.int .i64 v.ctor) ∧ w'.cell? ⟨w.heap.size, 1, none⟩ = some (.int .i64 v.n) ∧ w'.cell? ⟨w.heap.size, 2, none⟩ = some (.slice E v.kids.length ev)) (with_reducible exact SQ) (first
          | (go_at_call 62; (with_reducible refine (HMS.out wr.drew (Below.refl _ wr).drew).mono ?_); intro e3 w3 hq3; obtain ⟨u3, rfl, hb'⟩ := hq3.none_; have hbq : Below wr.heap.size wr w3 := ⟨hb'.os, hb'.tape, hb'.output, hb'.size, hb'.block⟩; have SQ := HKS.out _ hbq; clear hq3 hb'))
        clear SQ
        go_wp2_with fail
        go_roundw
        case rel => exact ⟨k + 1, by omega, by go_num, HN, below_aft hbr hbq hbr.size⟩
        case measure => simp [intOf]; omega
      | some M =>
        rw [hM] at HMS
        have hwv : ∀ b ∈ M, wV b.val ≤ 1048576 := fun b hb => by have := mtS_wV 10 _ v M hM b hb; have := H61.out; omega
        have HWV := Lib.hid hwv
        clear hwv
        cases hG : ghB L[k].g0 L[k].g1 L[k].g2 M with
        | false =>
          have HN := Lib.hid (hno.out.step hlt (fit_gd hM hG))
          have HG := Lib.hid hG
          clear hM hno hG
          go_wp2_with fail
          go_region_held3 (fun w' => w'.cell? ⟨g, off + k * 9, none⟩ = some (.int .i64 L[k].pat.op) ∧ w'.cell? ⟨g, off + k * 9 + 1, none⟩ = some (.int .i64 L[k].pat.ctor) ∧ w'.cell? ⟨g, off + k * 9 + 2, none⟩ = some (.int .i64 L[k].pat.n) ∧ w'.cell? ⟨g, off + k * 9 + 3, none⟩ = some (.int .i64 L[k].pat.m) ∧ w'.cell? ⟨g, off + k * 9 + 4, none⟩ = some (.int .i64 L[k].pat.var) ∧ w'.cell? ⟨g, off + k * 9 + 5, none⟩ = some (.slice A' L[k].pat.kids.length cp) ∧ w'.cell? ⟨w.heap.size, 0, none⟩ = some (.int .i64 v.ctor) ∧ w'.cell? ⟨w.heap.size, 1, none⟩ = some (.int .i64 v.n) ∧ w'.cell? ⟨w.heap.size, 2, none⟩ = some (.slice E v.kids.length ev)) (with_reducible exact SQ) (first
            | (go_at_call 62; (with_reducible refine (HMS.out wr.drew (Below.refl _ wr).drew).mono ?_); intro e3 w3 hq3; obtain ⟨u3, rfl, ho3, hn3, hb'⟩ := hq3.some_; have hbq : Below wr.heap.size wr w3 := ⟨hb'.os, hb'.tape, hb'.output, hb'.size, hb'.block⟩; have SQ := HKS.out _ hbq; obtain ⟨A3, c3, rfl, hr3⟩ := ho3.reads (by have := hbq.size; omega) (by have := HPL.out; unfold maxLen; simp only [List.nil_append]; omega); rw [List.nil_append] at hr3; have HR3 := Lib.hid hr3; clear hr3 ho3 hn3 hq3 hb'))
          clear SQ
          obtain ⟨d6, d7, d8⟩ := HKG.out _ hbq
          have hgq : g < w3.heap.size := by have := hbq.size; omega
          go_wp2_with (go_at_call 133; (with_reducible refine (gh_spec e A3 M c3 L[k].g0 L[k].g1 L[k].g2 w3 HR3.out).mono ?_); rw [HG.out]; rintro e4 w4 ⟨rfl, hb4⟩)
          go_roundw
          case rel => exact ⟨k + 1, by omega, by go_num, HN, below_aft hbr (below_aft hbq hb4 hbq.size) hbr.size⟩
          case measure => simp [intOf]; omega
        | true =>
          have HN : Hid (runF v L 0 = ((k : Int), sortB M 6)) := by unfold Hid; rw [run_at hlt hno.out (fit_yes hM hG)]; simp
          have HG := Lib.hid hG
          clear hM hno hG
          go_wp2_with fail
          go_region_held3 (fun w' => w'.cell? ⟨g, off + k * 9, none⟩ = some (.int .i64 L[k].pat.op) ∧ w'.cell? ⟨g, off + k * 9 + 1, none⟩ = some (.int .i64 L[k].pat.ctor) ∧ w'.cell? ⟨g, off + k * 9 + 2, none⟩ = some (.int .i64 L[k].pat.n) ∧ w'.cell? ⟨g, off + k * 9 + 3, none⟩ = some (.int .i64 L[k].pat.m) ∧ w'.cell? ⟨g, off + k * 9 + 4, none⟩ = some (.int .i64 L[k].pat.var) ∧ w'.cell? ⟨g, off + k * 9 + 5, none⟩ = some (.slice A' L[k].pat.kids.length cp) ∧ w'.cell? ⟨w.heap.size, 0, none⟩ = some (.int .i64 v.ctor) ∧ w'.cell? ⟨w.heap.size, 1, none⟩ = some (.int .i64 v.n) ∧ w'.cell? ⟨w.heap.size, 2, none⟩ = some (.slice E v.kids.length ev)) (with_reducible exact SQ) (first
            | (go_at_call 62; (with_reducible refine (HMS.out wr.drew (Below.refl _ wr).drew).mono ?_); intro e3 w3 hq3; obtain ⟨u3, rfl, ho3, hn3, hb'⟩ := hq3.some_; have hbq : Below wr.heap.size wr w3 := ⟨hb'.os, hb'.tape, hb'.output, hb'.size, hb'.block⟩; have SQ := HKS.out _ hbq; have HL3 : Hid (M.length ≤ 61) := (by unfold Hid; have := HPL.out; omega); obtain ⟨A3, c3, rfl, hr3⟩ := ho3.reads (by have := hbq.size; omega) (by have := HPL.out; unfold maxLen; simp only [List.nil_append]; omega); rw [List.nil_append] at hr3; have HR3 := Lib.hid hr3; clear hr3 ho3 hn3 hq3 hb'))
          clear SQ
          obtain ⟨d6, d7, d8⟩ := HKG.out _ hbq
          have hgq : g < w3.heap.size := by have := hbq.size; omega
          go_wp2_with (first
            | (go_at_call 133; (with_reducible refine (gh_spec e A3 M c3 L[k].g0 L[k].g1 L[k].g2 w3 HR3.out).mono ?_); rw [HG.out]; rintro e4 w4 ⟨rfl, hb4⟩; have HR4 := Lib.hid (HR3.out.at_ hb4); have hbr4 := below_aft hb (below_aft hbq hb4 hbq.size) hb.size)
            | (go_at_call 63; (with_reducible refine (so_any e A3 c3 M w4 HR4.out (by have := HL3.out; omega) HWV.out).mono ?_); rintro e5 w5 ⟨A5, c5, rfl, ho5, hb5⟩; have HO5 := Lib.hid ho5.reads; have hbr5 := below_aft hbr4 hb5 hbr4.size; clear ho5))
          go_ret2
          exact RunT.of HN.out HO5.out hbr5
    · have HN : Hid (runF v L 0 = (-1, [])) := run_none (fun j hj hjk => hno.out j hj (by omega))
      clear hno
      go_wp2_with fail
      go_ret2
      exact RunT.none HN.out (hb.alloc (by have := hb.size; omega) _)
def RcT (d : Nat) (o : Int × List Bn × Bool) (w : World) (E : Ending) (w' : World) : Prop := ∃ A S c, E = .returned (.tuple #[.int .i64 o.1, .slice A S.length c, .bool o.2.2]) ∧ o.2.1 = S ∧ RBs d w' w'.heap.size A S ∧ Below w.heap.size w w'
theorem RcT.no {d : Nat} {o : Int × List Bn × Bool} {w w' : World} {A : Option Addr} {c : Nat} (h : o = (-1, [], false)) (hb : Below w.heap.size w w') : RcT d o w (.returned (.tuple #[.int .i64 (-1), .slice A 0 c, .bool false])) w' := by subst h; exact ⟨A, [], c, rfl, rfl, RBs.nil, hb⟩
set_option maxHeartbeats 4000000 in
theorem rc_s_1 (A C E : Option Addr) (l : List Da) (cap ccap ev d e : Nat) (t : Ty) (L : List Cn) (v : Vl) (w : World) (hr : RDas w w.heap.size A l) (hc : RCs d w w.heap.size C L) (hv : RVs e w w.heap.size E v.kids) (hw : wCs L ≤ 1048576) (hnv : wV v ≤ 16000000) (h0 : csB l t L = false) :
    Calls Tryz.prog 23 #[.slice A l.length cap, .agg #[.int .i64 t.data, .int .i64 t.index], .slice C L.length ccap, .agg #[.int .i64 v.ctor, .int .i64 v.n, .slice E v.kids.length ev]] w (RcT e (rcO l t L v) w) := by
  have HNC := Lib.hid hw
  have HNV := Lib.hid hnv
  clear hw hnv
  have Hr := Lib.hid hr
  have HC := Lib.hid hc
  have HV := Lib.hid hv
  clear hr hc hv
  generalize hwx : (w.alloc (.cells #[.int .i64 t.data, .int .i64 t.index] 25)).alloc (.cells #[.int .i64 v.ctor, .int .i64 v.n, .slice E v.kids.length ev] 31) = wx
  have hbx : Below w.heap.size w wx := by rw [← hwx]; exact ((Below.refl _ _).alloc (Nat.le_refl _) _).alloc (by simp) _
  have hsx1 : w.heap.size + 2 ≤ wx.heap.size := by rw [← hwx]; simp
  have HXT : Hid (Bx wx w.heap.size t) := by rw [← hwx]; exact ⟨by simp [go_sem], by simp [go_sem]⟩
  have HXV : Hid (VBx wx (w.heap.size + 1) v.ctor v.n (.slice E v.kids.length ev)) := by rw [← hwx]; exact ⟨by simp [go_sem], by simp [go_sem], by simp [go_sem]⟩
  have HW := Lib.hid hwx
  clear hwx
  obtain ⟨x0, x1⟩ := HXT.out
  obtain ⟨z0, z1, z2⟩ := HXV.out
  have HB := Lib.hid h0
  have HM := Lib.hid (rc_no1 (v := v) h0)
  clear h0
  have HCS : Hid (∀ W, Below wx.heap.size wx W → Calls Tryz.prog 72 #[.slice A l.length cap, .agg #[.int .i64 t.data, .int .i64 t.index], .slice C L.length ccap] W fun e w' => e = .returned (.bool false) ∧ Below W.heap.size W w') := fun W h => by
    have hq := cs_spec A C l cap ccap d t L W ((Hr.out.at_ hbx).at_ h) ((HC.out.at_ hbx).at_ h) HNC.out
    rw [HB.out] at hq
    exact hq
  go_enter Tryz.func23, Tryz.ntmps23
  go_wp2_with (first
    | (go_at_call 72; (try rw [HW.out]); (with_reducible refine (HCS.out wx (Below.refl _ _)).mono ?_); rintro e1 w1 ⟨rfl, hb1⟩; have HX1 := Lib.hid (And.intro (HXT.out.at_ hb1) (HXV.out.at_ hb1)); have hbw1 := below_aft hbx hb1 hbx.size; obtain ⟨x0', x1'⟩ := HX1.out.1; obtain ⟨z0', z1', z2'⟩ := HX1.out.2; clear x0 x1 z0 z1 z2)
    | fail)
  go_ret3
  exact RcT.no HM.out (hbw1.alloc (by have := hbw1.size; omega) _)
set_option maxHeartbeats 4000000 in
theorem rc_s_2 (A C E : Option Addr) (l : List Da) (cap ccap ev d e : Nat) (t : Ty) (L : List Cn) (v : Vl) (w : World) (hr : RDas w w.heap.size A l) (hc : RCs d w w.heap.size C L) (hv : RVs e w w.heap.size E v.kids) (hw : wCs L ≤ 1048576) (hnv : wV v ≤ 16000000) (h0 : csB l t L = true) (h1 : isV l t v = false) :
    Calls Tryz.prog 23 #[.slice A l.length cap, .agg #[.int .i64 t.data, .int .i64 t.index], .slice C L.length ccap, .agg #[.int .i64 v.ctor, .int .i64 v.n, .slice E v.kids.length ev]] w (RcT e (rcO l t L v) w) := by
  have HNC := Lib.hid hw
  have HNV := Lib.hid hnv
  clear hw hnv
  have Hr := Lib.hid hr
  have HC := Lib.hid hc
  have HV := Lib.hid hv
  clear hr hc hv
  generalize hwx : (w.alloc (.cells #[.int .i64 t.data, .int .i64 t.index] 25)).alloc (.cells #[.int .i64 v.ctor, .int .i64 v.n, .slice E v.kids.length ev] 31) = wx
  have hbx : Below w.heap.size w wx := by rw [← hwx]; exact ((Below.refl _ _).alloc (Nat.le_refl _) _).alloc (by simp) _
  have hsx1 : w.heap.size + 2 ≤ wx.heap.size := by rw [← hwx]; simp
  have HXT : Hid (Bx wx w.heap.size t) := by rw [← hwx]; exact ⟨by simp [go_sem], by simp [go_sem]⟩
  have HXV : Hid (VBx wx (w.heap.size + 1) v.ctor v.n (.slice E v.kids.length ev)) := by rw [← hwx]; exact ⟨by simp [go_sem], by simp [go_sem], by simp [go_sem]⟩
  have HW := Lib.hid hwx
  clear hwx
  obtain ⟨x0, x1⟩ := HXT.out
  obtain ⟨z0, z1, z2⟩ := HXV.out
  have HB := Lib.hid h0
  have HK := Lib.hid (cs_parts h0).1
  have HI := Lib.hid h1
  have HM := Lib.hid (rc_no2 (L := L) h1)
  clear h0 h1
  have HCS : Hid (∀ W, Below wx.heap.size wx W → Calls Tryz.prog 72 #[.slice A l.length cap, .agg #[.int .i64 t.data, .int .i64 t.index], .slice C L.length ccap] W fun e w' => e = .returned (.bool true) ∧ Below W.heap.size W w') := fun W h => by
    have hq := cs_spec A C l cap ccap d t L W ((Hr.out.at_ hbx).at_ h) ((HC.out.at_ hbx).at_ h) HNC.out
    rw [HB.out] at hq
    exact hq
  have HIV : Hid (∀ W, Below wx.heap.size wx W → Calls Tryz.prog 61 #[.slice A l.length cap, .agg #[.int .i64 t.data, .int .i64 t.index], .agg #[.int .i64 v.ctor, .int .i64 v.n, .slice E v.kids.length ev]] W fun e w' => e = .returned (.bool false) ∧ Below W.heap.size W w') := fun W h => by
    have hq := isV_any A E l cap ev e t v W ((Hr.out.at_ hbx).at_ h) HK.out ((HV.out.at_ hbx).at_ h) HNV.out
    rw [HI.out] at hq
    exact hq
  go_enter Tryz.func23, Tryz.ntmps23
  go_wp2_with (first
    | (go_at_call 72; (try rw [HW.out]); (with_reducible refine (HCS.out wx (Below.refl _ _)).mono ?_); rintro e1 w1 ⟨rfl, hb1⟩; have HX1 := Lib.hid (And.intro (HXT.out.at_ hb1) (HXV.out.at_ hb1)); have hbw1 := below_aft hbx hb1 hbx.size; obtain ⟨x0', x1'⟩ := HX1.out.1; obtain ⟨z0', z1', z2'⟩ := HX1.out.2; clear x0 x1 z0 z1 z2)
    | (go_at_call 61; (with_reducible refine (HIV.out w1 hb1).mono ?_); rintro e2 w2 ⟨rfl, hb2⟩; have hb12 := below_aft hb1 hb2 hb1.size; have hbw2 := below_aft hbx hb12 hbx.size; have HX2 := Lib.hid (And.intro (HXT.out.at_ hb12) (HXV.out.at_ hb12)); obtain ⟨a0, a1⟩ := HX2.out.1; obtain ⟨d0, d1, d2⟩ := HX2.out.2; clear x0' x1' z0' z1' z2')
    | fail)
  go_ret3
  exact RcT.no HM.out (hbw2.alloc (by have := hbw2.size; omega) _)
set_option maxHeartbeats 4000000 in
theorem rc_s_3 (A C E : Option Addr) (l : List Da) (cap ccap ev d e : Nat) (t : Ty) (L : List Cn) (v : Vl) (w : World) (hr : RDas w w.heap.size A l) (hc : RCs d w w.heap.size C L) (hv : RVs e w w.heap.size E v.kids) (hw : wCs L ≤ 1048576) (hnv : wV v ≤ 16000000) (h0 : csB l t L = true) (h1 : isV l t v = true) :
    Calls Tryz.prog 23 #[.slice A l.length cap, .agg #[.int .i64 t.data, .int .i64 t.index], .slice C L.length ccap, .agg #[.int .i64 v.ctor, .int .i64 v.n, .slice E v.kids.length ev]] w (RcT e (rcO l t L v) w) := by
  have HNC := Lib.hid hw
  have HNV := Lib.hid hnv
  clear hw hnv
  have Hr := Lib.hid hr
  have HC := Lib.hid hc
  have HV := Lib.hid hv
  clear hr hc hv
  generalize hwx : (w.alloc (.cells #[.int .i64 t.data, .int .i64 t.index] 25)).alloc (.cells #[.int .i64 v.ctor, .int .i64 v.n, .slice E v.kids.length ev] 31) = wx
  have hbx : Below w.heap.size w wx := by rw [← hwx]; exact ((Below.refl _ _).alloc (Nat.le_refl _) _).alloc (by simp) _
  have hsx1 : w.heap.size + 2 ≤ wx.heap.size := by rw [← hwx]; simp
  have HXT : Hid (Bx wx w.heap.size t) := by rw [← hwx]; exact ⟨by simp [go_sem], by simp [go_sem]⟩
  have HXV : Hid (VBx wx (w.heap.size + 1) v.ctor v.n (.slice E v.kids.length ev)) := by rw [← hwx]; exact ⟨by simp [go_sem], by simp [go_sem], by simp [go_sem]⟩
  have HW := Lib.hid hwx
  clear hwx
  obtain ⟨x0, x1⟩ := HXT.out
  obtain ⟨z0, z1, z2⟩ := HXV.out
  have HB := Lib.hid h0
  have HK := Lib.hid (cs_parts h0).1
  have HAC := Lib.hid (cs_parts h0).2.2
  have HI := Lib.hid h1
  have HM := Lib.hid (rc_yes h0 h1)
  clear h0 h1
  have HCS : Hid (∀ W, Below wx.heap.size wx W → Calls Tryz.prog 72 #[.slice A l.length cap, .agg #[.int .i64 t.data, .int .i64 t.index], .slice C L.length ccap] W fun e w' => e = .returned (.bool true) ∧ Below W.heap.size W w') := fun W h => by
    have hq := cs_spec A C l cap ccap d t L W ((Hr.out.at_ hbx).at_ h) ((HC.out.at_ hbx).at_ h) HNC.out
    rw [HB.out] at hq
    exact hq
  have HIV : Hid (∀ W, Below wx.heap.size wx W → Calls Tryz.prog 61 #[.slice A l.length cap, .agg #[.int .i64 t.data, .int .i64 t.index], .agg #[.int .i64 v.ctor, .int .i64 v.n, .slice E v.kids.length ev]] W fun e w' => e = .returned (.bool true) ∧ Below W.heap.size W w') := fun W h => by
    have hq := isV_any A E l cap ev e t v W ((Hr.out.at_ hbx).at_ h) HK.out ((HV.out.at_ hbx).at_ h) HNV.out
    rw [HI.out] at hq
    exact hq
  have HRN : Hid (∀ W, Below wx.heap.size wx W → Calls Tryz.prog 73 #[.slice C L.length ccap, .agg #[.int .i64 v.ctor, .int .i64 v.n, .slice E v.kids.length ev]] W (RunT e (runF v L 0) W)) := fun W h => l4Run_any l t C E ccap ev d e L v W ((HC.out.at_ hbx).at_ h) ((HV.out.at_ hbx).at_ h) HAC.out HI.out
  go_enter Tryz.func23, Tryz.ntmps23
  go_wp2_with (first
    | (go_at_call 72; (try rw [HW.out]); (with_reducible refine (HCS.out wx (Below.refl _ _)).mono ?_); rintro e1 w1 ⟨rfl, hb1⟩; have HX1 := Lib.hid (And.intro (HXT.out.at_ hb1) (HXV.out.at_ hb1)); have hbw1 := below_aft hbx hb1 hbx.size; obtain ⟨x0', x1'⟩ := HX1.out.1; obtain ⟨z0', z1', z2'⟩ := HX1.out.2; clear x0 x1 z0 z1 z2)
    | (go_at_call 61; (with_reducible refine (HIV.out w1 hb1).mono ?_); rintro e2 w2 ⟨rfl, hb2⟩; have hb12 := below_aft hb1 hb2 hb1.size; have hbw2 := below_aft hbx hb12 hbx.size; have HX2 := Lib.hid (And.intro (HXT.out.at_ hb12) (HXV.out.at_ hb12)); obtain ⟨a0, a1⟩ := HX2.out.1; obtain ⟨d0, d1, d2⟩ := HX2.out.2; clear x0' x1' z0' z1' z2')
    | (go_at_call 73; (with_reducible refine (HRN.out w2 hb12).mono ?_); rintro e3 w3 ⟨A3, S, c3, rfl, hS, hr3, hb3⟩; have HS := Lib.hid hS; have HR3 := Lib.hid hr3; have hbw3 := below_aft hbw2 hb3 hbw2.size; clear hS hr3 a0 a1 d0 d1 d2)
    | fail)
  go_ret3
  rw [HM.out]
  exact ⟨A3, S, c3, rfl, HS.out, HR3.out, hbw3⟩
theorem rc_spec (A C E : Option Addr) (l : List Da) (cap ccap ev d e : Nat) (t : Ty) (L : List Cn) (v : Vl) (w : World) (hr : RDas w w.heap.size A l) (hc : RCs d w w.heap.size C L) (hv : RVs e w w.heap.size E v.kids) (hw : wCs L ≤ 1048576) (hnv : wV v ≤ 16000000) :
    Calls Tryz.prog 23 #[.slice A l.length cap, .agg #[.int .i64 t.data, .int .i64 t.index], .slice C L.length ccap, .agg #[.int .i64 v.ctor, .int .i64 v.n, .slice E v.kids.length ev]] w (RcT e (rcO l t L v) w) := by
  cases h0 : csB l t L with
  | false => exact rc_s_1 A C E l cap ccap ev d e t L v w hr hc hv hw hnv h0
  | true =>
    cases h1 : isV l t v with
    | false => exact rc_s_2 A C E l cap ccap ev d e t L v w hr hc hv hw hnv h0 h1
    | true => exact rc_s_3 A C E l cap ccap ev d e t L v w hr hc hv hw hnv h0 h1
end Go.Proofs.YthdnfnmglhifmaaGreat
/-
  ClausesValid of the program. No statement is proved here.
-/
namespace Go.Proofs.YthdnfnmglhifmaaGreat
open Go.RowKit Go.Sort Go.Deep
set_option maxRecDepth 100000
set_option linter.unusedVariables false
set_option maxHeartbeats 1600000 in
theorem cs_impl (A C : Option Addr) (l : List Da) (cap ccap d : Nat) (t : Ty) (L : List Cn) (w : World) (hr : RDas w w.heap.size A l) (hv : RCs d w w.heap.size C L) :
    Calls Tryz.prog 25 #[.slice A l.length cap, .agg #[.int .i64 t.data, .int .i64 t.index], .slice C L.length ccap] w fun e w' => e = .returned (.bool (csB l t L)) ∧ Below w.heap.size w w' := by
  have Hr := Lib.hid hr
  have HV := Lib.hid hv
  clear hr hv
  generalize hw0 : (w.alloc (.cells #[.slice A l.length cap] 23)).alloc (.cells #[.int .i64 t.data, .int .i64 t.index] 25) = w0
  have hb0 : Below w.heap.size w w0 := by rw [← hw0]; exact ((Below.refl _ _).alloc (Nat.le_refl _) _).alloc (by simp) _
  have HXA : Hid (w0.cell? ⟨w.heap.size, 0, none⟩ = some (.slice A l.length cap)) := by rw [← hw0]; unfold Hid; simp [go_sem]
  have HXT : Hid (Bx w0 (w.heap.size + 1) t) := by rw [← hw0]; exact ⟨by simp [go_sem], by simp [go_sem]⟩
  have hs0 : w.heap.size < w0.heap.size := by rw [← hw0]; simp <;> omega
  have HW := Lib.hid hw0
  clear hw0
  have xa := HXA.out
  obtain ⟨x0, x1⟩ := HXT.out
  by_cases ht : TyOK l t
  · have HT := Lib.hid ht
    clear ht
    by_cases hl : L.length ≤ 8
    · have q8 : decide ((L.length : Int) ≤ 8) = true := decide_eq_true (by omega)
      have HL := Lib.hid hl
      clear hl
      go_enter Tryz.func25, Tryz.ntmps25
      go_wp2_with (first | (go_at_call 65; (try rw [HW.out]); refine (typeI_yes (t := t) (Hr.out.at_ hb0) HT.out).mono ?_; rintro e1 w1 ⟨rfl, hb1⟩; have ya := (hb1.cell (p := ⟨w.heap.size, 0, none⟩) hs0).trans HXA.out; obtain ⟨y0, y1⟩ := HXT.out.at_ hb1; have hb1w := below_aft hb0 hb1 hb0.size) | (go_at_call 79; refine (containsBad_any w.heap.size (w.heap.size + 1) A C l cap ccap d t L w1 (Hr.out.at_ hb1w) (HV.out.at_ hb1w) ⟨ya, y0, y1⟩).mono ?_; rintro e2 w2 ⟨b, rfl, hcs, hb2⟩; have HCS := Lib.hid (hcs HT.out HL.out); clear hcs))
      go_ret
      exact ⟨ret_bool HCS.out.symm, below_aft hb1w hb2 hb1w.size⟩
    · have q8 : decide ((L.length : Int) ≤ 8) = false := decide_eq_false (by omega)
      have HF : Hid (csB l t L = false) := cs_nolen hl
      clear hl
      go_enter Tryz.func25, Tryz.ntmps25
      go_wp2_with (go_at_call 65; (try rw [HW.out]); refine (typeI_yes (t := t) (Hr.out.at_ hb0) HT.out).mono ?_; rintro e1 w1 ⟨rfl, hb1⟩; have ya := (hb1.cell (p := ⟨w.heap.size, 0, none⟩) hs0).trans HXA.out; obtain ⟨y0, y1⟩ := HXT.out.at_ hb1; have hb1w := below_aft hb0 hb1 hb0.size)
      go_ret
      exact ⟨ret_bool HF.out.symm, hb1w⟩
  · have HT := Lib.hid ht
    have HF : Hid (csB l t L = false) := cs_noty ht
    clear ht
    go_enter Tryz.func25, Tryz.ntmps25
    go_wp2_with (go_at_call 65; (try rw [HW.out]); refine (typeI_no (t := t) (Hr.out.at_ hb0) HT.out).mono ?_; rintro e1 w1 ⟨rfl, hb1⟩; have ya := (hb1.cell (p := ⟨w.heap.size, 0, none⟩) hs0).trans HXA.out; obtain ⟨y0, y1⟩ := HXT.out.at_ hb1; have hb1w := below_aft hb0 hb1 hb0.size)
    go_ret
    exact ⟨ret_bool HF.out.symm, hb1w⟩
end Go.Proofs.YthdnfnmglhifmaaGreat
