/-
  When a tree has the shape of a pattern for a type: the document's function. No statement is proved here.
-/
import Derived.Test.YteoopmogklpnoaaT29
import Derived.Test.YteoopmogklpnoaaT01
import Derived.OwnWalk
namespace Go.Proofs.Yteoopmogklpnoaa
open Go.RowKit Go.Sort Go.Deep
set_option maxRecDepth 100000
set_option linter.unusedVariables false
def ShC (l : List Da) (d : Nat) (z : Int) : Prop := ∀ (A D : Option Addr) (cap ep e : Nat) (t : Ty) (p : Pt) (w : World), RDas w w.heap.size A l → TyOK l t → RPs e w w.heap.size D p.kids →
  Calls Try.prog 106 #[.slice A l.length cap, .agg #[.int .i64 t.data, .int .i64 t.index], .agg #[.int .i64 p.op, .int .i64 p.ctor, .int .i64 p.n, .int .i64 p.m, .int .i64 p.var, .slice D p.kids.length ep], .int .i64 z] w fun e w' => e = .returned (.bool (shP l d t p)) ∧ Below w.heap.size w w'
def ShS (l : List Da) (d : Nat) : Prop := ShC l d (d : Nat)
theorem ShC.known {l : List Da} {d : Nat} {z : Int} (h : ShC l d z) (A D : Option Addr) (cap ep e : Nat) (t : Ty) (p : Pt) (b : Bool) (w : World) (hf : shP l d t p = b) (hr : RDas w w.heap.size A l) (ht : TyOK l t) (hv : RPs e w w.heap.size D p.kids) :
    Calls Try.prog 106 #[.slice A l.length cap, .agg #[.int .i64 t.data, .int .i64 t.index], .agg #[.int .i64 p.op, .int .i64 p.ctor, .int .i64 p.n, .int .i64 p.m, .int .i64 p.var, .slice D p.kids.length ep], .int .i64 z] w fun e w' => e = .returned (.bool b) ∧ Below w.heap.size w w' := by
  rw [← hf]; exact h A D cap ep e t p w hr ht hv
theorem shS_zero (l : List Da) : ShS l 0 := by
  intro A D cap ep e t p w hr ht hv
  have HB : Hid (∀ o o' : Obj, Below w.heap.size w ((w.alloc o).alloc o')) := fun o o' => ((Below.refl _ _).alloc (Nat.le_refl _) _).alloc (by simp) _
  clear hr ht hv
  go_enter Try.func106, Try.ntmps106
  go_wp2_with fail
  go_ret
  exact ⟨rfl, HB.out _ _⟩
set_option maxHeartbeats 3000000 in
theorem shS_step (l : List Da) (d : Nat) (hd : d < 100) (ih : ShS l d) : ShS l (d + 1) := by
  intro A D cap ep e t p w hr ht hv
  have hl := hv.1
  have Hr := Lib.hid hr
  have HT := Lib.hid ht
  have HV := Lib.hid hv
  unfold maxLen at hl
  generalize hz : ((d + 1 : Nat) : Int) = z
  have hz0 : 1 ≤ z := by omega
  have hz2 : z ≤ 101 := by omega
  have hz1 : decide (z < 1) = false := by simpa using hz0
  have IHz : Hid (ShC l d (z - 1)) := by unfold Hid; rw [show z - 1 = (d : Int) by omega]; exact ih
  clear hr ht hv ih hz
  generalize hw0 : (w.alloc (.cells #[.int .i64 t.data, .int .i64 t.index] 25)).alloc (.cells #[.int .i64 p.op, .int .i64 p.ctor, .int .i64 p.n, .int .i64 p.m, .int .i64 p.var, .slice D p.kids.length ep] 50) = w0
  have hb0 := below_box2 hw0
  have HXT : Hid (Bx w0 w.heap.size t) := by rw [← hw0]; exact ⟨by simp [go_sem], by simp [go_sem]⟩
  have HXP : Hid (PBx w0 (w.heap.size + 1) p (.slice D p.kids.length ep)) := by rw [← hw0]; exact ⟨by simp [go_sem], by simp [go_sem], by simp [go_sem], by simp [go_sem], by simp [go_sem], by simp [go_sem]⟩
  have HW := Lib.hid hw0
  clear hw0
  obtain ⟨x0, x1⟩ := HXT.out
  obtain ⟨y0, y1, y2, y3, y4, y5⟩ := HXP.out
  by_cases ho : OwnOK l t p
  · have HD := Lib.hid (dec_t ho)
    have hm3 := tysP_len l t p
    have HOK := Lib.hid (tysP_ok HT.out ho)
    have HAG : Hid (∀ w, RDas w w.heap.size A l → _) := fun w h => tys_any A D l cap ep t p w h HT.out ho.mem
    by_cases hk : p.kids.length = (tysP l t p).length
    · have HF := Lib.hid (shP_go (d := d) ho hk)
      have HK := Lib.hid (fun (i : Nat) (h : i < (tysP l t p).length) (h' : i < p.kids.length) => kidP_at (l := l) (d := d) h h')
      generalize hats : tysP l t p = ats at HF hm3 HOK HK HAG hk
      have hkI : ((p.kids.length : Int) != (ats.length : Int)) = false := by simp [hk]
      have HKL := Lib.hid hk
      clear ho hats hk
      go_enter Try.func106, Try.ntmps106
      go_wp2_with (first | (go_at_call 132; rw [HW.out]; refine (own_any A D l cap ep t p _ (Hr.out.at_ hb0) HT.out).mono ?_; rw [HD.out]; rintro e1 w1 ⟨rfl, hb1⟩; obtain ⟨u0, u1⟩ := HXT.out.at_ hb1; have HXP1 := Lib.hid (HXP.out.at_ hb1); obtain ⟨z0, z1, z2, z3, z4, z5⟩ := HXP1.out; have hb1w := below_aft hb0 hb1 hb0.size) | (go_at_call 102; refine (HAG.out _ (Hr.out.at_ hb1w)).mono ?_; rintro e3 w3 ⟨v3, rfl, ho3, hb3'⟩; obtain ⟨A3, c3, rfl, hr3⟩ := ho3.form (by unfold maxLen; omega); have HR3 := Lib.hid hr3; have HXP3 := Lib.hid (HXP1.out.at_ hb3'); obtain ⟨z0', z1', z2', z3', z4', z5'⟩ := HXP3.out; have hb3 := below_aft hb1w hb3' hb1w.size; clear hr3 ho3 hb3'))
      clear x0 x1 y0 y1 y2 y3 y4 y5 u0 u1 z0 z1 z2 z3 z4 z5 z0' z1' z2' z3' z4' z5'
      go_loopw [10] (fun i wr => ∃ k : Nat, k ≤ ats.length ∧ i = .int .i64 k ∧ Hid (upto (kidP l d ats p.kids) k = true) ∧ Below w3.heap.size w3 wr) (fun i _ => ats.length - (intOf i).toNat)
      case atStart => exact ⟨0, by omega, rfl, rfl, Below.refl _ _⟩
      case round =>
        obtain ⟨k, hk, rfl, HU, hb⟩ := hrel
        have hbw : Below w.heap.size w wr := below_aft hb3 hb hb3.size
        have HXPr := Lib.hid (HXP3.out.at_ hb)
        obtain ⟨f0, f1, f2, f3, f4, f5⟩ := HXPr.out
        by_cases hlt : k < ats.length
        · have hkl : k < p.kids.length := by rw [HKL.out]; exact hlt
          obtain ⟨g, o, rfl, hgB, t0, t1⟩ := (HR3.out.below hb (Nat.le_refl _)).2 k hlt
          obtain ⟨b, off, rfl, hbB, hvk⟩ := (HV.out.below hbw (Nat.le_refl _)).2 k hkl
          obtain ⟨e', he', D', cp, c0, c1, c2, c3', c4, c5, hm⟩ := hvk.parts
          have d0 := cell_regrown t0
          have d1 := cell_regrown t1
          have d2 := cell_regrown c0
          have d3 := cell_regrown c1
          have d4 := cell_regrown c2
          have d5 := cell_regrown c3'
          have d6 := cell_regrown c4
          have d7 := cell_regrown c5
          have d8 := cell_regrown f5
          have Hm : Hid (RPs e' wr wr.heap.size D' p.kids[k].kids) := hm.keep (fun _ _ => rfl) hbw.size
          have Hrr : Hid (RDas wr wr.heap.size A l) := Hr.out.at_ hbw
          have HTk := Lib.hid (HOK.out _ (List.getElem_mem hlt))
          have HKk := Lib.hid (HK.out k hlt hkl)
          have hi : (k : Int) < (ats.length : Int) := by omega
          have hi2 : (k : Int) < (p.kids.length : Int) := by omega
          have hzs : IntKind.i64.wrap (z - 1) = z - 1 := IntWalk.i64_in _ (by omega)
          clear c0 c1 c2 c3' c4 c5 t0 t1 f0 f1 f2 f3 f4 f5 hm hvk he'
          by_cases hf : shP l d ats[k] p.kids[k] = true
          · have HFk := Lib.hid hf
            have HUk : Hid (upto (kidP l d ats p.kids) (k + 1) = true) := upto_t HU.out (by rw [HKk.out]; exact hf)
            clear hf
            go_wp2_with fail
            refine wp_region_quiet_below (by kernel_rfl) (by kernel_rfl) ?_
            repeat (quiet_step (exact Calls.regrown_of (IHz.out.known _ _ _ _ _ _ _ _ _ HFk.out (Hrr.out.at_ (below_regrown wr _ _)) HTk.out (Hm.out.at_ (below_regrown wr _ _)))))
            refine wpQuiet_nil ?_
            intro _ hw'
            obtain ⟨⟨dq, osq⟩, hw''⟩ := hw'
            subst hw''
            have hb2 := hb.trans ((below_regrown wr dq osq).mono hb.size)
            clear d0 d1 d2 d3 d4 d5 d6 d7 d8
            go_wp2_with fail
            go_roundw
            case rel => exact ⟨k + 1, by omega, by go_num, HUk, hb2⟩
            case measure => simp [intOf]; omega
          · have hf' : shP l d ats[k] p.kids[k] = false := by simpa using hf
            have HFk := Lib.hid hf'
            have HUk := Lib.hid (upto_f (f := kidP l d ats p.kids) hlt (by rw [HKk.out]; exact hf'))
            clear hf hf'
            go_wp2_with fail
            refine wp_region_quiet_below (by kernel_rfl) (by kernel_rfl) ?_
            repeat (quiet_step (exact Calls.regrown_of (IHz.out.known _ _ _ _ _ _ _ _ _ HFk.out (Hrr.out.at_ (below_regrown wr _ _)) HTk.out (Hm.out.at_ (below_regrown wr _ _)))))
            refine wpQuiet_nil ?_
            intro _ hw'
            obtain ⟨⟨dq, osq⟩, hw''⟩ := hw'
            subst hw''
            have hb2 := hbw.trans ((below_regrown wr dq osq).mono hbw.size)
            clear d0 d1 d2 d3 d4 d5 d6 d7 d8
            go_wp2_with fail
            go_ret
            exact ⟨ret_bool (by rw [HF.out, HUk.out]), hb2⟩
        · have he : k = ats.length := by omega
          have HE : Hid (shP l (d + 1) t p = true) := by unfold Hid; rw [HF.out, ← he]; exact HU.out
          clear he
          go_wp2_with fail
          go_ret
          exact ⟨ret_bool HE.out.symm, hbw⟩
    · have HF := Lib.hid (shP_len (d := d) hk)
      generalize hats : tysP l t p = ats at HF hm3 HOK HAG hk
      have hkI : ((p.kids.length : Int) != (ats.length : Int)) = true := by simp; omega
      clear ho hats hk
      go_enter Try.func106, Try.ntmps106
      go_wp2_with (first | (go_at_call 132; rw [HW.out]; refine (own_any A D l cap ep t p _ (Hr.out.at_ hb0) HT.out).mono ?_; rw [HD.out]; rintro e1 w1 ⟨rfl, hb1⟩; obtain ⟨u0, u1⟩ := HXT.out.at_ hb1; have HXP1 := Lib.hid (HXP.out.at_ hb1); obtain ⟨z0, z1, z2, z3, z4, z5⟩ := HXP1.out; have hb1w := below_aft hb0 hb1 hb0.size) | (go_at_call 102; refine (HAG.out _ (Hr.out.at_ hb1w)).mono ?_; rintro e3 w3 ⟨v3, rfl, ho3, hb3'⟩; obtain ⟨A3, c3, rfl, hr3⟩ := ho3.form (by unfold maxLen; omega); have HR3 := Lib.hid hr3; have HXP3 := Lib.hid (HXP1.out.at_ hb3'); obtain ⟨z0', z1', z2', z3', z4', z5'⟩ := HXP3.out; have hb3 := below_aft hb1w hb3' hb1w.size; clear hr3 ho3 hb3'))
      go_ret
      exact ⟨ret_bool HF.out.symm, hb3⟩
  · have HF := Lib.hid (shP_own (d := d) ho)
    have HD := Lib.hid (dec_f ho)
    clear ho
    go_enter Try.func106, Try.ntmps106
    go_wp2_with (go_at_call 132; rw [HW.out]; refine (own_any A D l cap ep t p _ (Hr.out.at_ hb0) HT.out).mono ?_; rw [HD.out]; rintro e1 w1 ⟨rfl, hb1⟩; obtain ⟨u0, u1⟩ := HXT.out.at_ hb1; have HXP1 := Lib.hid (HXP.out.at_ hb1); obtain ⟨z0, z1, z2, z3, z4, z5⟩ := HXP1.out; have hb1w := below_aft hb0 hb1 hb0.size)
    go_ret
    exact ⟨ret_bool HF.out.symm, hb1w⟩
theorem shS_any (l : List Da) : ∀ d, d < 100 → ShS l d
  | 0, _ => shS_zero l
  | d + 1, h => shS_step l d (by omega) (shS_any l d (by omega))
end Go.Proofs.Yteoopmogklpnoaa
/-
  The variables of a pattern with their types: plain mathematics, and rows of the call's own. No statement is proved here.
-/
namespace Go.Proofs.Yteoopmogklpnoaa
open Go.RowKit Go.Sort Go.Deep
set_option maxRecDepth 100000
set_option linter.unusedVariables false
def hdV (t : Ty) (p : Pt) : List Vt := if p.op = 2 ∨ p.op = 6 then [⟨p.var, t⟩] else []
def catV (f : Nat → List Vt) : Nat → List Vt | 0 => [] | k + 1 => catV f k ++ f k
noncomputable def limV (l : List Da) (t : Ty) (p : Pt) : Nat := if p.op = 5 then 1 else (tysP l t p).length
noncomputable def vrP (l : List Da) : Nat → Ty → Pt → List Vt
  | 0, _, _ => []
  | d + 1, t, p => hdV t p ++ catV (fun i => vrP l d ((tysP l t p).getD i default) (p.kids.getD i default)) (limV l t p)
noncomputable def kidR (l : List Da) (d : Nat) (ats : List Ty) (ks : List Pt) (i : Nat) : List Vt := vrP l d (ats.getD i default) (ks.getD i default)
theorem kidR_at {l : List Da} {d : Nat} {ats : List Ty} {ks : List Pt} {i : Nat} (h : i < ats.length) (h' : i < ks.length) : kidR l d ats ks i = vrP l d ats[i] ks[i] := by
  unfold kidR; rw [getDv_at ats i h, getDv_at ks i h']
theorem vrP_go (l : List Da) (d : Nat) (t : Ty) (p : Pt) : vrP l (d + 1) t p = hdV t p ++ catV (kidR l d (tysP l t p) p.kids) (limV l t p) := rfl
theorem hdV_yes {t : Ty} {p : Pt} (h : p.op = 2 ∨ p.op = 6) : hdV t p = [⟨p.var, t⟩] := if_pos h
theorem hdV_no {t : Ty} {p : Pt} (h : ¬ (p.op = 2 ∨ p.op = 6)) : hdV t p = [] := if_neg h
theorem hdV_len (t : Ty) (p : Pt) : (hdV t p).length ≤ 1 := by unfold hdV; split <;> simp
theorem limV_le (l : List Da) (t : Ty) (p : Pt) : limV l t p ≤ (tysP l t p).length := by
  unfold limV
  split
  · rename_i h
    rw [tysP_other (by omega), List.length_replicate, h]; decide
  · exact Nat.le_refl _
theorem cat_len {l : List Da} {d : Nat} {p : Pt} {ats : List Ty} {n : Nat} (hn : n ≤ 1) (hl : p.kids.length = ats.length) (ih : ∀ i (h : i < ats.length) (h' : i < p.kids.length), (vrP l d ats[i] p.kids[i]).length ≤ 1 + wP p.kids[i]) :
    ∀ k, k ≤ p.kids.length → n + (catV (kidR l d ats p.kids) k).length ≤ upKP p.kids k
  | 0, _ => by rw [upKP_zero]; exact hn
  | k + 1, h => by
    have h1 := cat_len hn hl ih k (by omega)
    have h2 := ih k (by omega) h
    have h3 : catV (kidR l d ats p.kids) (k + 1) = catV (kidR l d ats p.kids) k ++ kidR l d ats p.kids k := rfl
    rw [upKP_succ _ _ h, h3, List.length_append, kidR_at (by omega) h]
    omega
theorem vrP_len (l : List Da) : ∀ (d : Nat) (t : Ty) (p : Pt), shP l d t p = true → (vrP l d t p).length ≤ 1 + wP p
  | 0, t, p, h => by rw [shP_zero] at h; cases h
  | d + 1, t, p, h => by
    obtain ⟨h1, h2, h3⟩ := shP_parts h
    have hc := cat_len (l := l) (d := d) (n := (hdV t p).length) (hdV_len t p) h2 (fun i hi hi' => vrP_len l d _ _ (h3 i hi hi')) (limV l t p) (by have := limV_le l t p; omega)
    have hu := upKP_le p (limV l t p) (by have := limV_le l t p; omega)
    rw [vrP_go, List.length_append]
    omega

/-! Rows of the call's own. -/
theorem infoVt : (Try.prog.info? 56).map (fun i => (i.zero, i.size, i.bytes)) = some (some (.agg #[.int .i64 0, .int .i64 0, .int .i64 0]), 3, 24) := by kernel_rfl
def VtRow (L : List Vt) (xs : List Value) : Prop := ∀ j (h : j < L.length), xs[j * 3]? = some (.int .i64 L[j].var) ∧ xs[j * 3 + 1]? = some (.int .i64 L[j].ty.data) ∧ xs[j * 3 + 1 + 1]? = some (.int .i64 L[j].ty.index)
theorem VtRow.app {L : List Vt} {xs : List Value} {x : Vt} (h : VtRow L xs) (hx : xs.length = L.length * 3) : VtRow (L ++ [x]) (xs ++ [.int .i64 x.var, .int .i64 x.ty.data, .int .i64 x.ty.index]) := by
  intro j hj
  by_cases e : j = L.length
  · subst e
    refine ⟨?_, ?_, ?_⟩
    · rw [List.getElem?_append_right (by omega), hx]; simp
    · rw [List.getElem?_append_right (by omega), hx]; simp
    · rw [List.getElem?_append_right (by omega), hx, show L.length * 3 + 1 + 1 - L.length * 3 = 2 by omega]; simp
  · have hj' : j < L.length := by simp at hj; omega
    obtain ⟨a, b, c⟩ := h j hj'
    rw [List.getElem_append_left hj']
    refine ⟨?_, ?_, ?_⟩
    · rw [List.getElem?_append_left (by omega)]; exact a
    · rw [List.getElem?_append_left (by omega)]; exact b
    · rw [List.getElem?_append_left (by omega)]; exact c
def OVt (w : World) (lo : Nat) (v : Value) (L : List Vt) : Prop := ∃ xs, w.ownsRow lo 56 3 v L.length xs ∧ VtRow L xs
theorem OVt.nil (w : World) (lo : Nat) : OVt w lo (.slice none 0 0) [] := ⟨[], World.ownsRow_nil _ _ _ _, fun j h => absurd h (Nat.not_lt_zero _)⟩
theorem OVt.lt {w : World} {lo : Nat} {v : Value} {L : List Vt} (h : OVt w lo v L) : ∀ g, v.ownBlock = some g → lo ≤ g ∧ g < w.heap.size := by
  obtain ⟨xs, ho, _⟩ := h; exact ho.lt
theorem OVt.alloc {w : World} {lo : Nat} {v : Value} {L : List Vt} (h : OVt w lo v L) (o : Obj) : OVt (w.alloc o) lo v L := by
  obtain ⟨xs, ho, hx⟩ := h; exact ⟨xs, ho.alloc o, hx⟩
theorem OVt.keep {w w' : World} {lo : Nat} {v : Value} {L : List Vt} (h : OVt w lo v L) (hk : ∀ b, v.ownBlock = some b → w'.heap[b]? = w.heap[b]?) : OVt w' lo v L := by
  obtain ⟨xs, ho, hx⟩ := h; exact ⟨xs, own_at ho hk, hx⟩
theorem OVt.at_ {w w' : World} {lo : Nat} {v : Value} {L : List Vt} (h : OVt w lo v L) (hb : Below w.heap.size w w') : OVt w' lo v L :=
  h.keep (fun b e => hb.block b (h.lt b e).2)
theorem OVt.form {w : World} {lo : Nat} {v : Value} {L : List Vt} (h : OVt w lo v L) (hl : L.length ≤ maxLen) : ∃ A cap, v = .slice A L.length cap ∧ RVts w w.heap.size A L := by
  obtain ⟨xs, ho, hx⟩ := h
  rcases ho.2 with ⟨rfl, h0⟩ | ⟨g, cap, cur, rfl, hb, hg, hnc, hcm, hcs, htake⟩
  · exact ⟨none, 0, by rw [h0], hl, fun k hk => absurd hk (by omega)⟩
  · refine ⟨_, cap, rfl, hl, fun k hk => ⟨g, 0, rfl, own_lt ho, ?_, ?_, ?_⟩⟩
    · rw [Nat.zero_add, ho.cellAt (k * 3) (by omega)]; exact (hx k hk).1
    · rw [Nat.zero_add, ho.cellAt (k * 3 + 1) (by omega)]; exact (hx k hk).2.1
    · rw [Nat.zero_add, ho.cellAt (k * 3 + 1 + 1) (by omega)]; exact (hx k hk).2.2
theorem OTys.keptV2 {w w' : World} {lo : Nat} {u : Value} {l : List Ty} {k : Nat} (h : OTys w lo u l k) (hk : ∀ b, u.ownBlock = some b → w'.heap[b]? = w.heap[b]?) : OTys w' lo u l k := by
  obtain ⟨xs, ho, hx⟩ := h; exact ⟨xs, own_at ho hk, hx⟩
theorem OTys.own {w : World} {lo : Nat} {u : Value} {l : List Ty} {k : Nat} (h : OTys w lo u l k) : ∀ g, u.ownBlock = some g → lo ≤ g ∧ g < w.heap.size := by
  obtain ⟨xs, ho, _⟩ := h; exact ho.lt
theorem OTys.reads {w : World} {lo n c : Nat} {A : Option Addr} {l : List Ty} (h : OTys w lo (.slice A n c) l l.length) (hl : l.length ≤ maxLen) : RTys w w.heap.size A l := by
  obtain ⟨A', c', e, hr⟩ := h.form hl
  injection e with e1 e2 e3
  rw [e1]; exact hr

/-! What a call leaves alone: all but one row. -/
structure Fresh (w : World) (v v' : Value) : Prop where
  new : ∀ g, v'.ownBlock = some g → v.ownBlock = some g ∨ w.heap.size ≤ g
theorem Fresh.refl (w : World) (v : Value) : Fresh w v v := ⟨fun g h => .inl h⟩
theorem Fresh.trans {w w' : World} {v v' v'' : Value} (h : Fresh w v v') (h' : Fresh w' v' v'') (hs : w.heap.size ≤ w'.heap.size) : Fresh w v v'' :=
  ⟨fun g e => by
    rcases h'.new g e with e | e
    · exact h.new g e
    · exact .inr (by omega)⟩
theorem grown_refl (w : World) (r : Option Nat) : w.grownBy w r := ⟨rfl, rfl, rfl, Nat.le_refl _, fun _ _ _ => rfl⟩
theorem grown_chain {w w1 w2 : World} {v v1 : Value} (h : w.grownBy w1 v.ownBlock) (h2 : w1.grownBy w2 v1.ownBlock) (hf : Fresh w v v1) : w.grownBy w2 v.ownBlock :=
  ⟨h2.os.trans h.os, h2.tape.trans h.tape, h2.output.trans h.output, Nat.le_trans h.size h2.size, fun i hi hne =>
    (h2.block i (by have := h.size; omega) (fun e => by
      rcases hf.new i e.symm with h | h
      · exact hne h.symm
      · omega)).trans (h.block i hi hne)⟩
theorem grown_below {w w1 : World} {B : Nat} {r : Option Nat} (h : Below B w w1) (hB : w.heap.size ≤ B) : w.grownBy w1 r := ⟨h.os, h.tape, h.output, h.size, fun i hi _ => h.block i (by omega)⟩
theorem grown_low {w w1 : World} {lo : Nat} {r : Option Nat} (h : w.grownBy w1 r) (hr : ∀ g, r = some g → lo ≤ g) (hl : lo ≤ w.heap.size) : Below lo w w1 :=
  ⟨h.os, h.tape, h.output, h.size, fun i hi => h.block i (by omega) (fun e => by have := hr i e.symm; omega)⟩
theorem grown_drewV {w w1 : World} {r : Option Nat} (h : w.grownBy w1 r) : w.grownBy w1.drew r := ⟨h.os, h.tape, h.output, h.size, h.block⟩
theorem cell_3_new (w : World) (x y z : Value) (t : TypeId) : ∀ j u, [x, y, z][j]? = some u → (w.alloc (.cells #[x, y, z] t)).cell? ((⟨w.heap.size, 0, none⟩ : Addr).add j) = some u := by
  intro j u hj
  match j, hj with
  | 0, hj => simp at hj; subst hj; simp [Addr.add, go_sem]
  | 1, hj => simp at hj; subst hj; simp [Addr.add, go_sem]
  | 2, hj => simp at hj; subst hj; simp [Addr.add, go_sem]
end Go.Proofs.Yteoopmogklpnoaa
