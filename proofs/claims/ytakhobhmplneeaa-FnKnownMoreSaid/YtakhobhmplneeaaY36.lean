/-
  ValueSame of the program. No statement is proved here.
-/
import Derived.Test.YtakhobhmplneeaaY35
import Derived.Test.YtakhobhmplneeaaY00
import Derived.Test.YtakhobhmplneeaaY06
import Derived.Test.YtakhobhmplneeaaY18
import Derived.Test.YtakhobhmplneeaaY09
import Derived.Test.YtakhobhmplneeaaY22
import Derived.Test.YtakhobhmplneeaaY03
import Derived.Test.YtakhobhmplneeaaY02
import Derived.Test.YtakhobhmplneeaaY27
import Derived.Test.YtakhobhmplneeaaY32
import Derived.Test.YtakhobhmplneeaaY25
import Derived.Deep.RegionHeld3
import Derived.Deep.Slices
import Derived.ChangeArms
namespace Go.Proofs.Ytakhobhmplneeaa
open Go.RowKit Go.Sort Go.Deep
set_option maxRecDepth 100000
set_option linter.unusedVariables false
theorem vsm_impl (D E : Option Addr) (p q : Vl) (cp cq d e : Nat) (PP QQ : Nat → Prop) (w : World) (hp : OVc d w PP D p.kids) (hq : OVc e w QQ E q.kids) (hPP : ∀ b, PP b → b < w.heap.size) (hQQ : ∀ b, QQ b → b < w.heap.size) (hcp : p.kids.length ≤ cp ∧ cp ≤ maxLen) (hcq : q.kids.length ≤ cq ∧ cq ≤ maxLen) (hN : wV p ≤ 1048576) :
    Calls Try.prog 11 #[.agg #[.int .i64 p.ctor, .int .i64 p.n, .slice D p.kids.length cp], .agg #[.int .i64 q.ctor, .int .i64 q.n, .slice E q.kids.length cq]] w fun e w' => e = .returned (.bool (dec (p = q))) ∧ Below w.heap.size w w' := by
  generalize hw0 : (w.alloc (.cells #[.int .i64 p.ctor, .int .i64 p.n, .slice D p.kids.length cp] 28)).alloc (.cells #[.int .i64 q.ctor, .int .i64 q.n, .slice E q.kids.length cq] 28) = w0
  have hb0 : Below w.heap.size w w0 := by rw [← hw0]; exact ((Below.refl _ _).alloc (Nat.le_refl _) _).alloc (by simp) _
  have HC := Lib.hid (cv_cmp D E p q cp cq d e PP QQ w0 (hp.fr _ (Fr.below (P := fun _ => False) hb0) (fun _ _ h => h)) (hq.fr _ (Fr.below (P := fun _ => False) hb0) (fun _ _ h => h)) (fun b h => Nat.lt_of_lt_of_le (hPP b h) hb0.size) (fun b h => Nat.lt_of_lt_of_le (hQQ b h) hb0.size) hcp hcq hN)
  have HV := Lib.hid (show VBx w0 w.heap.size p.ctor p.n (.slice D p.kids.length cp) ∧ VBx w0 (w.heap.size + 1) q.ctor q.n (.slice E q.kids.length cq) by rw [← hw0]; exact ⟨⟨by simp [go_sem], by simp [go_sem], by simp [go_sem]⟩, ⟨by simp [go_sem], by simp [go_sem], by simp [go_sem]⟩⟩)
  obtain ⟨⟨x0, x1, x2⟩, ⟨y0, y1, y2⟩⟩ := HV.out
  have HW := Lib.hid hw0
  clear hp hq hPP hQQ hcp hcq hN hw0
  go_enter Try.func11, Try.ntmps11
  go_upto_region 1 with fail
  rw [HW.out]
  go_wp2_with fail
  refine HC.out.mono ?_; rintro e1 w1 ⟨c, rfl, hc, hb1⟩
  have hbw := below_aft hb0 hb1 hb0.size
  by_cases h0 : c = 0
  · have HD : Hid (dec (p = q) = true) := dec_t (hc.1 h0)
    have u : (c == 0) = true := ieq_t h0
    clear hc h0 x0 x1 x2 y0 y1 y2 hb1
    go_wp2_with fail
    go_ret
    exact ⟨ret_bool HD.out.symm, hbw⟩
  · have HD : Hid (dec (p = q) = false) := dec_f (fun h => h0 (hc.2 h))
    have u : (c == 0) = false := ieq_f h0
    clear hc h0 x0 x1 x2 y0 y1 y2 hb1
    go_wp2_with fail
    go_ret
    exact ⟨ret_bool HD.out.symm, hbw⟩
end Go.Proofs.Ytakhobhmplneeaa
/-
  The law FnKnownMore walked. No statement is proved here.
-/
namespace Go.Proofs.Ytakhobhmplneeaa
open Go.RowKit Go.Sort Go.Deep
set_option maxRecDepth 100000
set_option linter.unusedVariables false
set_option maxHeartbeats 4000000 in
theorem k2_law (n cap : Nat) (A : Option Addr) (w : World) (hn : n ≤ maxLen) (hc : n ≤ cap) (h : RBy w w.heap.size A n) : Calls Try.prog 3 #[.slice A n cap] w fun e w' => e = .returned (.bool true) ∧ Below w.heap.size w w' := by
  have HC := Lib.hid hc
  have HNM := Lib.hid hn
  have H := Lib.hid h
  clear hc hn h
  by_cases hb : n ≤ 1048576
  case neg =>
    have hbI : (1048576 : Int) < (n : Int) := by omega
    go_enter Try.func3, Try.ntmps3
    go_wp2_with fail
    go_ret
    exact ⟨rfl, Below.refl _ _⟩
  have hbI : (n : Int) ≤ 1048576 := by omega
  go_enter Try.func3, Try.ntmps3
  go_wp2_with fail
  with_reducible refine (drawKM_any n cap A w HNM.out HC.out H.out).mono ?_
  rintro e w1 ⟨l, t, a, b, Aw, Aa, Ab, cw, ca, cb, Pa, Pb, rfl, hrd, hca, hcb, hoa, hob, hPa, hPb, hwa, hwb, hb1⟩
  generalize hw0 : ((w1.alloc (.cells #[.int .i64 t.data, .int .i64 t.index] 25)).alloc (.cells #[.int .i64 a.ctor, .int .i64 a.n, .slice Aa a.kids.length ca] 28)).alloc (.cells #[.int .i64 b.ctor, .int .i64 b.n, .slice Ab b.kids.length cb] 28) = w0
  have hb0 : Below w1.heap.size w1 w0 := below_box3k hw0
  have HXT : Hid (Bx w0 w1.heap.size t) := by rw [← hw0]; exact ⟨by simp [go_sem], by simp [go_sem]⟩
  have HXA : Hid (VBx w0 (w1.heap.size + 1) a.ctor a.n (.slice Aa a.kids.length ca)) := by rw [← hw0]; exact ⟨by simp [go_sem], by simp [go_sem], by simp [go_sem]⟩
  have HXB : Hid (VBx w0 (w1.heap.size + 2) b.ctor b.n (.slice Ab b.kids.length cb)) := by rw [← hw0]; exact ⟨by simp [go_sem], by simp [go_sem], by simp [go_sem]⟩
  have R0 : Hid (RDas w0 w0.heap.size Aw l) := hrd.at_ hb0
  have VA0 : Hid (RVs 3 w0 w0.heap.size Aa a.kids) := (OVc.reads 3 hoa).at_ hb0
  have VB0 : Hid (RVs 3 w0 w0.heap.size Ab b.kids) := (OVc.reads 3 hob).at_ hb0
  have HB0 : Hid (Below w.heap.size w w0) := below_aft hb1 hb0 hb1.size
  have HW0 := Lib.hid hw0
  have HVS : Hid (∀ W, Below w0.heap.size w0 W → Calls Try.prog 11 #[.agg #[.int .i64 a.ctor, .int .i64 a.n, .slice Aa a.kids.length ca], .agg #[.int .i64 b.ctor, .int .i64 b.n, .slice Ab b.kids.length cb]] W fun e w' => e = .returned (.bool (dec (a = b))) ∧ Below W.heap.size W w') := fun W hW => by
    have hW1 : Below w1.heap.size w1 W := below_aft hb0 hW hb0.size
    exact vsm_impl Aa Ab a b ca cb 4 4 Pa Pb W (hoa.fr _ (Fr.below (P := fun _ => False) hW1) (fun _ _ h => h)) (hob.fr _ (Fr.below (P := fun _ => False) hW1) (fun _ _ h => h)) (fun x h => Nat.lt_of_lt_of_le (hPa x h) hW1.size) (fun x h => Nat.lt_of_lt_of_le (hPb x h) hW1.size) hca hcb (by omega)
  clear hw0 hb0 hrd hoa hob hPa hPb hb1 hca hcb
  have HIM : Hid (∀ W, Below w0.heap.size w0 W → Calls Try.prog 8 #[.slice Aw l.length cw, .agg #[.int .i64 t.data, .int .i64 t.index], .agg #[.int .i64 a.ctor, .int .i64 a.n, .slice Aa a.kids.length ca], .agg #[.int .i64 b.ctor, .int .i64 b.n, .slice Ab b.kids.length cb]] W fun e w' => e = .returned (.bool (kmT l t a b)) ∧ Below W.heap.size W w') := fun W hW => km_impl Aw Aa Ab l cw ca cb 3 3 t a b W (R0.out.at_ hW) (VA0.out.at_ hW) (VB0.out.at_ hW) (by omega) (by omega)
  have HSP : Hid (∀ W, Below w0.heap.size w0 W → Calls Try.prog 9 #[.slice Aw l.length cw, .agg #[.int .i64 t.data, .int .i64 t.index], .agg #[.int .i64 a.ctor, .int .i64 a.n, .slice Aa a.kids.length ca], .agg #[.int .i64 b.ctor, .int .i64 b.n, .slice Ab b.kids.length cb]] W fun e w' => e = .returned (.bool (kmT l t a b)) ∧ Below W.heap.size W w') := fun W hW => km_spec Aw Aa Ab l cw ca cb 3 3 t a b W (R0.out.at_ hW) (VA0.out.at_ hW) (VB0.out.at_ hW) (by omega) (by omega)
  have HAA : Hid (∀ W, Below w0.heap.size w0 W → Calls Try.prog 8 #[.slice Aw l.length cw, .agg #[.int .i64 t.data, .int .i64 t.index], .agg #[.int .i64 a.ctor, .int .i64 a.n, .slice Aa a.kids.length ca], .agg #[.int .i64 a.ctor, .int .i64 a.n, .slice Aa a.kids.length ca]] W fun e w' => e = .returned (.bool (kmT l t a a)) ∧ Below W.heap.size W w') := fun W hW => km_impl Aw Aa Aa l cw ca ca 3 3 t a a W (R0.out.at_ hW) (VA0.out.at_ hW) (VA0.out.at_ hW) (by omega) (by omega)
  have HBA : Hid (∀ W, Below w0.heap.size w0 W → Calls Try.prog 8 #[.slice Aw l.length cw, .agg #[.int .i64 t.data, .int .i64 t.index], .agg #[.int .i64 b.ctor, .int .i64 b.n, .slice Ab b.kids.length cb], .agg #[.int .i64 a.ctor, .int .i64 a.n, .slice Aa a.kids.length ca]] W fun e w' => e = .returned (.bool (kmT l t b a)) ∧ Below W.heap.size W w') := fun W hW => km_impl Aw Ab Aa l cw cb ca 3 3 t b a W (R0.out.at_ hW) (VB0.out.at_ hW) (VA0.out.at_ hW) (by omega) (by omega)
  have HPV : Hid (∀ W, Below w0.heap.size w0 W → Calls Try.prog 10 #[.slice Aw l.length cw, .agg #[.int .i64 t.data, .int .i64 t.index], .agg #[.int .i64 a.ctor, .int .i64 a.n, .slice Aa a.kids.length ca]] W fun e w' => e = .returned (.bool (paT l t a)) ∧ Below W.heap.size W w') := fun W hW => pa_impl Aw Aa l cw ca 3 t a W (R0.out.at_ hW) (VA0.out.at_ hW) (by omega)
  rw [kmT_refl] at HAA
  have HRF : Hid (kmT l t a b = true → kmT l t b a = dec (a = b)) := fun h => kmT_anti h
  generalize paT l t a = pa at HAA HPV
  have qp : (pa != pa) = false := by simp
  have HCE : Hid (∀ W, Below w0.heap.size w0 W → W.cell? ⟨w1.heap.size, 0, none⟩ = some (.int .i64 t.data) ∧ W.cell? ⟨w1.heap.size, 1, none⟩ = some (.int .i64 t.index) ∧ W.cell? ⟨w1.heap.size + 1, 0, none⟩ = some (.int .i64 a.ctor) ∧ W.cell? ⟨w1.heap.size + 1, 1, none⟩ = some (.int .i64 a.n) ∧ W.cell? ⟨w1.heap.size + 1, 2, none⟩ = some (.slice Aa a.kids.length ca) ∧ W.cell? ⟨w1.heap.size + 2, 0, none⟩ = some (.int .i64 b.ctor) ∧ W.cell? ⟨w1.heap.size + 2, 1, none⟩ = some (.int .i64 b.n) ∧ W.cell? ⟨w1.heap.size + 2, 2, none⟩ = some (.slice Ab b.kids.length cb)) := fun W h => by
    obtain ⟨p0, p1⟩ := HXT.out.at_ h
    obtain ⟨p2, p3, p4⟩ := HXA.out.at_ h
    exact ⟨p0, p1, p2, p3, p4, HXB.out.at_ h⟩
  cases hk : kmT l t a b
  all_goals
    rw [hk] at HIM HSP
    have qr : ∀ x : Bool, (x != x) = false := fun x => by cases x <;> rfl
    have HKR := Lib.hid (fun h => HRF.out h)
  · clear HRF HKR
    clear hk
    go_wp2_with fail
    rw [HW0.out]
    refine (HIM.out w0 (Below.refl _ _)).mono ?_
    rintro e2 w2 ⟨rfl, hb2⟩
    have B02 : Hid (Below w0.heap.size w0 w2) := hb2
    have HDR2 : Hid (Below w0.heap.size w0 w2.drew) := hb2.drew
    have SQ := HCE.out w2.drew HDR2.out
    clear hb2
    go_wp2_with fail
    go_region_held3 (fun w' => w'.cell? ⟨w1.heap.size, 0, none⟩ = some (.int .i64 t.data) ∧ w'.cell? ⟨w1.heap.size, 1, none⟩ = some (.int .i64 t.index) ∧ w'.cell? ⟨w1.heap.size + 1, 0, none⟩ = some (.int .i64 a.ctor) ∧ w'.cell? ⟨w1.heap.size + 1, 1, none⟩ = some (.int .i64 a.n) ∧ w'.cell? ⟨w1.heap.size + 1, 2, none⟩ = some (.slice Aa a.kids.length ca) ∧ w'.cell? ⟨w1.heap.size + 2, 0, none⟩ = some (.int .i64 b.ctor) ∧ w'.cell? ⟨w1.heap.size + 2, 1, none⟩ = some (.int .i64 b.n) ∧ w'.cell? ⟨w1.heap.size + 2, 2, none⟩ = some (.slice Ab b.kids.length cb)) (with_reducible exact SQ) (first
      | (go_at_call 9; (with_reducible refine (HSP.out w2.drew HDR2.out).mono ?_); rintro e3 w3 ⟨rfl, hb'⟩; have hbq : Below w0.heap.size w0 w3 := below_aft HDR2.out hb' HDR2.out.size; have SQ := HCE.out _ hbq; clear hb')
      | (go_at_call 8; (with_reducible refine (HAA.out w3 hbq).mono ?_); rintro e4 w4 ⟨rfl, hb'⟩; have hbq := below_aft hbq hb' hbq.size; have SQ := HCE.out _ hbq; clear hb')
      | (go_at_call 10; (with_reducible refine (HPV.out w4 hbq).mono ?_); rintro e5 w5 ⟨rfl, hb'⟩; have hbq := below_aft hbq hb' hbq.size; have SQ := HCE.out _ hbq; clear hb'))
    have B05 := Lib.hid hbq
    have HB5 : Hid (Below w.heap.size w w5) := below_aft HB0.out hbq HB0.out.size
    clear SQ hbq
    obtain ⟨x0, x1, y0, y1, y2, z0, z1, z2⟩ := HCE.out w5 B05.out
    go_wp2_with fail
    go_quiet (fail)
    go_wp2_with fail
    go_ret
    exact ⟨rfl, below_drawn HB5.out _⟩
  · have hba := HRF.out hk
    rw [hba] at HBA
    clear HRF HKR hk hba
    generalize dec (a = b) = dd at HBA HVS
    have qd : (dd == dd) = true := by simp
    go_wp2_with fail
    rw [HW0.out]
    refine (HIM.out w0 (Below.refl _ _)).mono ?_
    rintro e2 w2 ⟨rfl, hb2⟩
    have B02 : Hid (Below w0.heap.size w0 w2) := hb2
    have HDR2 : Hid (Below w0.heap.size w0 w2.drew) := hb2.drew
    have SQ := HCE.out w2.drew HDR2.out
    clear hb2
    go_wp2_with fail
    go_region_held3 (fun w' => w'.cell? ⟨w1.heap.size, 0, none⟩ = some (.int .i64 t.data) ∧ w'.cell? ⟨w1.heap.size, 1, none⟩ = some (.int .i64 t.index) ∧ w'.cell? ⟨w1.heap.size + 1, 0, none⟩ = some (.int .i64 a.ctor) ∧ w'.cell? ⟨w1.heap.size + 1, 1, none⟩ = some (.int .i64 a.n) ∧ w'.cell? ⟨w1.heap.size + 1, 2, none⟩ = some (.slice Aa a.kids.length ca) ∧ w'.cell? ⟨w1.heap.size + 2, 0, none⟩ = some (.int .i64 b.ctor) ∧ w'.cell? ⟨w1.heap.size + 2, 1, none⟩ = some (.int .i64 b.n) ∧ w'.cell? ⟨w1.heap.size + 2, 2, none⟩ = some (.slice Ab b.kids.length cb)) (with_reducible exact SQ) (first
      | (go_at_call 9; (with_reducible refine (HSP.out w2.drew HDR2.out).mono ?_); rintro e3 w3 ⟨rfl, hb'⟩; have hbq : Below w0.heap.size w0 w3 := below_aft HDR2.out hb' HDR2.out.size; have SQ := HCE.out _ hbq; clear hb')
      | (go_at_call 8; (with_reducible refine (HAA.out w3 hbq).mono ?_); rintro e4 w4 ⟨rfl, hb'⟩; have hbq := below_aft hbq hb' hbq.size; have SQ := HCE.out _ hbq; clear hb')
      | (go_at_call 10; (with_reducible refine (HPV.out w4 hbq).mono ?_); rintro e5 w5 ⟨rfl, hb'⟩; have hbq := below_aft hbq hb' hbq.size; have SQ := HCE.out _ hbq; clear hb'))
    have B05 := Lib.hid hbq
    have HB5 : Hid (Below w.heap.size w w5) := below_aft HB0.out hbq HB0.out.size
    clear SQ hbq
    obtain ⟨x0, x1, y0, y1, y2, z0, z1, z2⟩ := HCE.out w5 B05.out
    go_wp2_with fail
    have SQ := HCE.out w5.drew B05.out.drew
    clear B02
    have HDR : Hid (Below w0.heap.size w0 w5.drew) := B05.out.drew
    go_region_held3 (fun w' => w'.cell? ⟨w1.heap.size, 0, none⟩ = some (.int .i64 t.data) ∧ w'.cell? ⟨w1.heap.size, 1, none⟩ = some (.int .i64 t.index) ∧ w'.cell? ⟨w1.heap.size + 1, 0, none⟩ = some (.int .i64 a.ctor) ∧ w'.cell? ⟨w1.heap.size + 1, 1, none⟩ = some (.int .i64 a.n) ∧ w'.cell? ⟨w1.heap.size + 1, 2, none⟩ = some (.slice Aa a.kids.length ca) ∧ w'.cell? ⟨w1.heap.size + 2, 0, none⟩ = some (.int .i64 b.ctor) ∧ w'.cell? ⟨w1.heap.size + 2, 1, none⟩ = some (.int .i64 b.n) ∧ w'.cell? ⟨w1.heap.size + 2, 2, none⟩ = some (.slice Ab b.kids.length cb)) (with_reducible exact SQ) (first
      | (go_at_call 8; (with_reducible refine (HBA.out w5.drew HDR.out).mono ?_); rintro e6 w6 ⟨rfl, hb'⟩; have hbq : Below w0.heap.size w0 w6 := below_aft HDR.out hb' HDR.out.size; have SQ := HCE.out _ hbq; clear hb')
      | (go_at_call 11; (with_reducible refine (HVS.out w6 hbq).mono ?_); rintro e7 w7 ⟨rfl, hb'⟩; have hbq := below_aft hbq hb' hbq.size; have SQ := HCE.out _ hbq; clear hb'))
    all_goals
      go_wp2_with fail
      go_ret
      exact ⟨rfl, below_aft HB0.out hbq HB0.out.size⟩
end Go.Proofs.Ytakhobhmplneeaa
/-
  The argument of the statements, opened; lists of numbers compared: the statements' own functions. No statement is proved here.
-/
namespace Go.Proofs.Ytakhobhmplneeaa
open Go.RowKit Go.Deep
open Go.ChangeShapes Go.WideShapes Go.ChangeAt
set_option maxRecDepth 100000
set_option linter.unusedVariables false
section
variable {H : Type} {enc : TypeId × Value → H} {w : World} {spare : Nat → Bool} {held : Bool}
theorem spot_none {w : World} {a : Addr} {v : Value} (h : w.cell? a = some v) : a.spot = none := by
  unfold World.cell? at h
  split at h
  · split at h
    · cases h
    · simpa using ‹¬ a.spot.isSome = true›
  · cases h
theorem open_code {v : Value} {d : DataW H} {p : List MemPlace} (hval : Value.okWide Try.prog w .any w.heap.size 22 v) (h : DataW.Trod enc Try.prog w 0 spare held 22 v d p) :
    ∃ A n cap, v = .slice A n cap ∧ n ≤ maxLen ∧ n ≤ cap ∧ RBy w w.heap.size A n := by
  obtain ⟨fuel, hf⟩ := h
  have hv : ∃ A n cap, v = .slice A n cap := okWide_slice Try.underlying22 hval
  obtain ⟨A, n, cap, rfl⟩ := hv
  rcases open_slice Try.underlying22 hf with ⟨hcs, _⟩ | ⟨a, len, cap', m, n', D, Pl, hcs, hb, hl, hm, hmm, hx, hi⟩
  · simp [Value.cells] at hcs
    obtain ⟨rfl, rfl, rfl⟩ := hcs
    exact ⟨none, 0, 0, rfl, Nat.zero_le _, Nat.le_refl _, fun k hk => absurd hk (by omega)⟩
  · simp [Value.cells] at hcs
    obtain ⟨rfl, rfl, rfl⟩ := hcs
    have hlm : n ≤ m := by rw [hmm]; split <;> omega
    refine ⟨some a, n, cap, rfl, by omega, hl, fun k hk => ?_⟩
    obtain ⟨cs', q1, q2⟩ := hi k (by omega)
    have h1 : Try.prog.cellsOf 5 = 1 := by kernel_rfl
    rw [h1] at q1
    obtain ⟨_, hcl, hat⟩ := World.cells?_some q1
    obtain ⟨x, rfl, _, hwf⟩ := DataW.trod_int Try.underlying5 q2
    have hc := (hat 0 (by omega)).trans rfl
    have hsp : a.spot = none := by
      obtain ⟨cs0, r1, r2⟩ := hi 0 (by omega)
      rw [h1] at r1
      obtain ⟨_, _, hat0⟩ := World.cells?_some r1
      obtain ⟨x0, rfl, _, _⟩ := DataW.trod_int Try.underlying5 r2
      have h0 := (hat0 0 (by omega)).trans rfl
      exact spot_none (w := w) (a := a) (by simpa [Addr.add] using h0)
    obtain ⟨b, off, sp⟩ := a
    simp only at hsp
    subst hsp
    simp only [Addr.add_lit, Nat.add_zero, Nat.mul_one] at hc
    have hw : 0 ≤ x ∧ x ≤ 255 := by
      have : (IntKind.u8.min ≤ x ∧ x ≤ IntKind.u8.max) := by simpa [Lit.wf] using hwf
      exact this
    exact ⟨b, off, x, rfl, block_lt_of_cell hc, hc, hw.1, hw.2⟩
end
end Go.Proofs.Ytakhobhmplneeaa
