/-
  The function FnExactTypeValid returns true for every list of data types and every type, and both read behind the call as they read before. No condition.
-/
import Derived.Test.YthebdlejoficmaaTypeV
import Derived.Test.YthebdlejoficmaaWorldValid
import Derived.Lib.SmallJoins
import Derived.Deep.RegionWith
namespace Go.Proofs.Ythebdlejoficmaa
open Go.RowKit Go.Deep
open Go.ChangeShapes Go.WideShapes Go.ChangeAt
set_option maxRecDepth 100000
set_option linter.unusedVariables false

/-- A type in a block of its own. -/
def Bx (w : World) (b : Nat) (t : Ty) : Prop := w.cell? ⟨b, 0, none⟩ = some (.int .i64 t.data) ∧ w.cell? ⟨b, 1, none⟩ = some (.int .i64 t.index)
theorem Bx.at_ {w w' : World} {b : Nat} {t : Ty} (h : Bx w b t) (hb : Below w.heap.size w w') : Bx w' b t :=
  ⟨(hb.cell (p := ⟨b, 0, none⟩) (Go.block_lt_of_cell h.1)).trans h.1, (hb.cell (p := ⟨b, 1, none⟩) (Go.block_lt_of_cell h.2)).trans h.2⟩
theorem Bx.new (w : World) (t : Ty) (T : TypeId) : Bx (w.alloc (.cells #[.int .i64 t.data, .int .i64 t.index] T)) w.heap.size t := ⟨by simp [go_sem], by simp [go_sem]⟩
theorem below_drew1 {w wr : World} (h : Below w.heap.size w wr) : Below w.heap.size w wr.drew := h.drew

set_option maxHeartbeats 1600000 in
theorem typeValid_law (A : Option Addr) (l : List Da) (cap : Nat) (t : Ty) (w : World) (hr : RDas w w.heap.size A l) :
    Calls Try.prog 6 #[.slice A l.length cap, .agg #[.int .i64 t.data, .int .i64 t.index]] w fun e w' => e = .returned (.bool true) ∧ Below w.heap.size w w' := by
  have Hr := Lib.hid hr
  clear hr
  have HX := Lib.hid (Bx.new w t 32)
  by_cases h1 : (wDas l : Int) ≤ 1048576
  · have H1 := Lib.hid (left_ok h1)
    go_enter Try.func6, Try.ntmps6
    go_wp2_with fail
    refine (szDataS_any _ _ _ _ _ (Hr.out.keep (keep_one _) (by simp)) (by omega) (by omega)).mono ?_; rw [H1.out]; rintro e w1 ⟨rfl, hb1'⟩
    have HX1 := Lib.hid (HX.out.at_ hb1')
    have hb1 := below_one hb1'
    clear hb1' HX
    obtain ⟨x0, x1⟩ := HX1.out
    go_wp2_with fail
    go_region_with (first | (go_at_call 15; refine (toDataS_any _ _ _ _ (by exact Hr.out.at_ hb1.drew) (by omega)).mono ?_; rintro e w3 ⟨g3, rfl, hf3, hb3'⟩; have R3 := Lib.hid hf3.reads; have HX3 := Lib.hid (HX1.out.at_ (w' := w3) ⟨hb3'.os, hb3'.tape, hb3'.output, hb3'.size, hb3'.block⟩); obtain ⟨y0, y1⟩ := HX3.out; have hb3 : Below w.heap.size w w3 := hb1.trans (Below.mono (⟨hb3'.os, hb3'.tape, hb3'.output, hb3'.size, hb3'.block⟩ : Below w1.heap.size w1 w3) hb1.size); clear hf3 hb3') | (go_at_call 21; refine (toType_any _ _ _).mono ?_; rintro e w4 ⟨rfl, hb4'⟩; have hb4 := below_then hb3 hb4'; have R4 := Lib.hid (R3.out.at_ hb4'); have HX4 := Lib.hid (HX3.out.at_ hb4'); clear hb4') | (go_at_call 20; refine (typeValid_spec _ _ _ t _ R4.out).mono ?_; rintro e w5 ⟨rfl, hb5'⟩; have hb5 := below_then hb4 hb5'; have HX5 := Lib.hid (HX4.out.at_ hb5'); clear hb5'))
    all_goals
      go_wp2_with fail
      refine (toDataS_any _ _ _ _ (Hr.out.at_ hb5) (by omega)).mono ?_; rintro e w6 ⟨g6, rfl, hf6, hb6'⟩
      have hb6 := below_then hb5 hb6'
      have R6 := Lib.hid hf6.reads
      have HX6 := Lib.hid (HX5.out.at_ hb6')
      clear hb5 hb6' hf6 HX5
      obtain ⟨z0, z1⟩ := HX6.out
      go_wp2_with fail
      refine (toType_any _ _ _).mono ?_; rintro e w7 ⟨rfl, hb7'⟩
      have hb7 := below_then hb6 hb7'
      have R6' := Lib.hid (R6.out.at_ hb7')
      clear hb6 hb7' R6 z0 z1
      go_wp2_with fail
      refine (typeValid_impl _ _ _ t _ R6'.out).mono ?_; rintro e w8 ⟨rfl, hb8'⟩
      have hb8 := below_then hb7 hb8'
      have R6 := Lib.hid (R6'.out.at_ hb8')
      clear hb7 hb8' R6'
      go_wp2_with fail
      refine (toDataS_any _ _ _ _ (Hr.out.at_ hb8) (by omega)).mono ?_; rintro e w9 ⟨g9, rfl, hf9, hb9'⟩
      have hb9 := below_then hb8 hb9'
      have R9 := Lib.hid hf9.reads
      have R6' := Lib.hid (R6.out.at_ hb9')
      clear hb8 hb9' hf9 R6
      go_wp2_with fail
      refine (eqDataS_same _ _ _ _ _ _ R6'.out R9.out).mono ?_; rintro e w10 ⟨rfl, hb10'⟩
      have hb10 := below_then hb9 hb10'
      clear hb9 hb10' R6' R9
      go_wp2_with fail
      go_ret
      exact ⟨rfl, hb10⟩
  · have H1 := Lib.hid (left_no h1)
    go_enter Try.func6, Try.ntmps6
    go_wp2_with fail
    refine (szDataS_any _ _ _ _ _ (Hr.out.keep (keep_one _) (by simp)) (by omega) (by omega)).mono ?_; rw [H1.out]; rintro e w1 ⟨rfl, hb1⟩
    go_wp2_with fail
    go_ret
    exact ⟨rfl, below_one hb1⟩

/-- An argument that is a type. -/
theorem open_ty {H : Type} {enc : TypeId × Value → H} {w : World} {spare : Nat → Bool} {held : Bool} {v : Value} {d : DataW H} {ps : List MemPlace} {b0 : Nat} {r : Reach} (hv : Value.okWide Try.prog w r b0 32 v) (h : DataW.Trod enc Try.prog w 0 spare held 32 v d ps) :
    ∃ t : Ty, v = .agg #[.int .i64 t.data, .int .i64 t.index] := by
  obtain ⟨c0, c1, y0, y1, m, rfl, rfl, rfl, hy0, hy1⟩ := Go.Joins.open_agg2 Try.underlying32 (by kernel_rfl) (by kernel_rfl) hv h
  obtain ⟨a, e0, _, _⟩ := DataW.trod_int Try.underlying3 hy0
  obtain ⟨b, e1, _, _⟩ := DataW.trod_int Try.underlying3 hy1
  simp only [List.cons.injEq, and_true] at e0 e1
  subst e0 e1
  exact ⟨⟨a, b⟩, rfl⟩

theorem tvLifted (os : Os) (started : os.Started) (H : Type) (enc : TypeId × Value → H) :
    ReturnsInHanded {} Try.checked os 6 .any (Rows.fnExactTypeValidSpec.pre6 enc Try.prog Try.f6 Rows.fnExactTypeValidRow.domain false) (Rows.fnExactTypeValidSpec.post enc Try.prog Try.f6 false true false false) := by
  refine returnsInHanded_of_change (C := Try.checked) wvOwn started (by kernel_rfl) Try.func6
    (ChangeSpec.witness6 (enc := enc) (C := Try.checked) false ⟨#[], #[.slice none 0 0, .agg #[.int .i64 0, .int .i64 0]], []⟩ 8 (by kernel_rfl) (by kernel_rfl) (by kernel_rfl) (by kernel_rfl)) ?_
  intro W base args ds gs before hval0 hW hcnd _
  have hval : ∀ (j : Nat) t v, Try.f6.params[j]? = some t → args[j]? = some v → Value.okWide Try.prog W .any base t v := hval0
  have hW' := hW
  obtain ⟨p, q, hA0, hV, rfl, hfz, hnd⟩ := hW
  have hA : DataW.TrodAll enc Try.prog W 0 (fun _ => true) true Try.f6.params.toList args.toList ds p := hA0
  rw [Try.params6] at hA hval
  obtain ⟨v0, v1, d0, d1, p0, p1, hargs, rfl, rfl, h0, h1⟩ := trodAll_two hA
  obtain rfl : args = #[v0, v1] := by cases args; simp_all
  obtain ⟨rfl, rfl⟩ := trodVars_none hV
  have h0k := h0
  have h1k := h1
  obtain ⟨A, l, cap, rfl, hr⟩ := open_das (hval 0 23 v0 rfl rfl) h0
  obtain ⟨t, rfl⟩ := open_ty (hval 1 32 v1 rfl rfl) h1
  clear hA0 hval0
  have hlt : ∀ y ∈ p0, y.block < W.heap.size := fun y hy => by simpa using hW'.lt y (by simp [hy])
  have hlt' : ∀ y ∈ p1, y.block < W.heap.size := fun y hy => by simpa using hW'.lt y (by simp [hy])
  refine (typeValid_law A l cap t W hr).mono fun e W' ⟨he, hb⟩ => ?_
  subst he
  have a0 : DataW.Trod enc Try.prog W' 0 (fun b => decide (b < W.heap.size)) true 23 (.slice A l.length cap) d0 p0 := Below.trod wvLaid (by kernel_rfl) (of_decide_eq_true (by kernel_rfl)) h0k hb hlt
  have a1 : DataW.Trod enc Try.prog W' 0 (fun b => decide (b < W.heap.size)) true 32 (.agg #[.int .i64 t.data, .int .i64 t.index]) d1 p1 := Below.trod wvLaid (by kernel_rfl) (of_decide_eq_true (by kernel_rfl)) h1k hb hlt'
  exact ⟨_, rfl, _, _, _, [], _, [], hW', trodAll_mk1 (shut_bool Try.underlying4 _), trodAll_mk2 a0 a1, rfl, hb.frame _, fun h => by cases h⟩

theorem typeValid_holds : Rows.FnExactTypeValidSaid :=
  OpenClaim.holds_of_wide 6 Try.f6 rfl rfl rfl rfl rfl rfl rfl ⟨rfl, rfl, rfl, rfl, rfl⟩ rfl rfl rfl rfl rfl (by kernel_rfl) Try.func6 (by kernel_rfl)
    (of_decide_eq_true (by kernel_rfl)) (by unfold Func.isWrapper; first | (rw [if_pos (by decide +kernel)]; kernel_rfl) | (rw [if_neg (by decide +kernel)]; exact ⟨rfl, rfl⟩))
    (fun os started H enc _ => tvLifted os started H enc)
#print axioms typeValid_holds
end Go.Proofs.Ythebdlejoficmaa
