/-
  The fields of a node of a pattern, and the types of its parts: the document's functions. No statement is proved here.
-/
import Derived.Test.YtbdiahnelnbdnaaGreatW05
import Derived.Test.YtbdiahnelnbdnaaGreatW03
import Derived.Test.YtbdiahnelnbdnaaGreatW04
import Derived.Test.YtbdiahnelnbdnaaGreatW01
import Derived.Deep.RegionHeld3
namespace Go.Proofs.YtbdiahnelnbdnaaGreat
open Go.RowKit Go.Sort Go.Deep
set_option maxRecDepth 100000
set_option linter.unusedVariables false
theorem oeq_t {a b : Int} (h : a = b) : (a != b) = false := by simp [h]
theorem oeq_f {a b : Int} (h : ¬ a = b) : (a != b) = true := by simpa using h
def PBx (w : World) (b : Nat) (p : Pt) (s : Value) : Prop := w.cell? ⟨b, 0, none⟩ = some (.int .i64 p.op) ∧ w.cell? ⟨b, 1, none⟩ = some (.int .i64 p.ctor) ∧ w.cell? ⟨b, 2, none⟩ = some (.int .i64 p.n) ∧ w.cell? ⟨b, 3, none⟩ = some (.int .i64 p.m) ∧ w.cell? ⟨b, 4, none⟩ = some (.int .i64 p.var) ∧ w.cell? ⟨b, 5, none⟩ = some s
theorem PBx.keep {w w' : World} {b : Nat} {p : Pt} {s : Value} (h : PBx w b p s) (hk : w'.heap[b]? = w.heap[b]?) : PBx w' b p s :=
  ⟨(World.cell?_of_block (a := ⟨b, 0, none⟩) hk).trans h.1, (World.cell?_of_block (a := ⟨b, 1, none⟩) hk).trans h.2.1, (World.cell?_of_block (a := ⟨b, 2, none⟩) hk).trans h.2.2.1, (World.cell?_of_block (a := ⟨b, 3, none⟩) hk).trans h.2.2.2.1, (World.cell?_of_block (a := ⟨b, 4, none⟩) hk).trans h.2.2.2.2.1, (World.cell?_of_block (a := ⟨b, 5, none⟩) hk).trans h.2.2.2.2.2⟩
theorem PBx.at_ {w w' : World} {b : Nat} {p : Pt} {s : Value} (h : PBx w b p s) (hb : Below w.heap.size w w') : PBx w' b p s := h.keep (hb.block b (Go.block_lt_of_cell h.1))
theorem kids_any (op : Int) (w : World) : ¬ op = 4 → Calls Tryz.prog 80 #[.int .i64 op] w fun e w' => e = .returned (.int .i64 (kidN op : Nat)) ∧ w = w' := by
  intro h4
  by_cases h5 : op = 5
  · have H : Hid (kidN op = 2) := if_pos h5
    have q5 := ieq_t h5
    clear h5
    go_enter Tryz.func80, Tryz.ntmps80
    go_wp2_with fail
    go_ret
    exact ⟨ret_i64 (by rw [H.out]; rfl), rfl⟩
  · by_cases h6 : op = 6
    · have H : Hid (kidN op = 1) := (if_neg h5).trans (if_pos h6)
      have q5 := ieq_f h5
      have q6 := ieq_t h6
      clear h5 h6
      go_enter Tryz.func80, Tryz.ntmps80
      go_wp2_with fail
      go_ret
      exact ⟨ret_i64 (by rw [H.out]; rfl), rfl⟩
    · have H : Hid (kidN op = 0) := (if_neg h5).trans (if_neg h6)
      have q5 := ieq_f h5
      have q6 := ieq_f h6
      have q4 := ieq_f h4
      clear h5 h6 h4
      go_enter Tryz.func80, Tryz.ntmps80
      go_wp2_with fail
      go_ret
      exact ⟨ret_i64 (by rw [H.out]; rfl), rfl⟩
set_option maxHeartbeats 1600000 in
theorem own_1 (A D : Option Addr) (l : List Da) (cap ep : Nat) (t : Ty) (p : Pt) (w : World) (hr : RDas w w.heap.size A l) (ht : TyOK l t) (hop : p.op = 1) :
    Calls Tryz.prog 60 #[.slice A l.length cap, .agg #[.int .i64 t.data, .int .i64 t.index], .agg #[.int .i64 p.op, .int .i64 p.ctor, .int .i64 p.n, .int .i64 p.m, .int .i64 p.var, .slice D p.kids.length ep]] w fun e w' => e = .returned (.bool (dec (OwnOK l t p))) ∧ Below w.heap.size w w' := by
  have HB : Hid (∀ o o' : Obj, Below w.heap.size w ((w.alloc o).alloc o')) := fun o o' => ((Below.refl _ _).alloc (Nat.le_refl _) _).alloc (by simp) _
  have u1 := ieq_t hop
  have v1 := oeq_t hop
  have u2 : (p.op == 2) = false := ieq_f (by omega)
  have v2 : (p.op != 2) = true := oeq_f (by omega)
  have u3 : (p.op == 3) = false := ieq_f (by omega)
  have v3 : (p.op != 3) = true := oeq_f (by omega)
  have u4 : (p.op == 4) = false := ieq_f (by omega)
  have v4 : (p.op != 4) = true := oeq_f (by omega)
  have u5 : (p.op == 5) = false := ieq_f (by omega)
  have v5 : (p.op != 5) = true := oeq_f (by omega)
  have u6 : (p.op == 6) = false := ieq_f (by omega)
  have v6 : (p.op != 6) = true := oeq_f (by omega)
  by_cases ka : p.var = 0
  · have za : (p.var != 0) = false := by simpa using ka
    by_cases kc : p.n = 0
    · have zc : (p.n != 0) = false := by simpa using kc
      by_cases kd : p.m = 0
      · have zd : (p.m != 0) = false := by simpa using kd
        by_cases ke : p.ctor = 0
        · have ze : (p.ctor != 0) = false := by simpa using ke
          have HR : Hid (dec (OwnOK l t p) = true) := dec_t (⟨fun _ => by omega, fun h => by omega, fun h => by omega, fun h => by omega, .inl hop⟩)
          clear ka kc kd ke hop
          go_enter Tryz.func60, Tryz.ntmps60
          go_wp2_with fail
          go_ret
          exact ⟨ret_bool HR.out.symm, HB.out _ _⟩
        · have ze : (p.ctor != 0) = true := by simpa using ke
          have HR : Hid (dec (OwnOK l t p) = false) := dec_f (fun h => by have := h.2.2.2.1 (by omega); omega)
          clear ka kc kd ke hop
          go_enter Tryz.func60, Tryz.ntmps60
          go_wp2_with fail
          go_ret
          exact ⟨ret_bool HR.out.symm, HB.out _ _⟩
      · have zd : (p.m != 0) = true := by simpa using kd
        have HR : Hid (dec (OwnOK l t p) = false) := dec_f (fun h => by have := h.2.2.1 (by omega); omega)
        clear ka kc kd hop
        go_enter Tryz.func60, Tryz.ntmps60
        go_wp2_with fail
        go_ret
        exact ⟨ret_bool HR.out.symm, HB.out _ _⟩
    · have zc : (p.n != 0) = true := by simpa using kc
      have HR : Hid (dec (OwnOK l t p) = false) := dec_f (fun h => by have := h.2.2.1 (by omega); omega)
      clear ka kc hop
      go_enter Tryz.func60, Tryz.ntmps60
      go_wp2_with fail
      go_ret
      exact ⟨ret_bool HR.out.symm, HB.out _ _⟩
  · have za : (p.var != 0) = true := by simpa using ka
    have HR : Hid (dec (OwnOK l t p) = false) := dec_f (fun h => by have := h.2.1 (by omega); omega)
    clear ka hop
    go_enter Tryz.func60, Tryz.ntmps60
    go_wp2_with fail
    go_ret
    exact ⟨ret_bool HR.out.symm, HB.out _ _⟩
set_option maxHeartbeats 1600000 in
theorem own_2 (A D : Option Addr) (l : List Da) (cap ep : Nat) (t : Ty) (p : Pt) (w : World) (hr : RDas w w.heap.size A l) (ht : TyOK l t) (hop : p.op = 2) :
    Calls Tryz.prog 60 #[.slice A l.length cap, .agg #[.int .i64 t.data, .int .i64 t.index], .agg #[.int .i64 p.op, .int .i64 p.ctor, .int .i64 p.n, .int .i64 p.m, .int .i64 p.var, .slice D p.kids.length ep]] w fun e w' => e = .returned (.bool (dec (OwnOK l t p))) ∧ Below w.heap.size w w' := by
  have HB : Hid (∀ o o' : Obj, Below w.heap.size w ((w.alloc o).alloc o')) := fun o o' => ((Below.refl _ _).alloc (Nat.le_refl _) _).alloc (by simp) _
  have u1 : (p.op == 1) = false := ieq_f (by omega)
  have v1 : (p.op != 1) = true := oeq_f (by omega)
  have u2 := ieq_t hop
  have v2 := oeq_t hop
  have u3 : (p.op == 3) = false := ieq_f (by omega)
  have v3 : (p.op != 3) = true := oeq_f (by omega)
  have u4 : (p.op == 4) = false := ieq_f (by omega)
  have v4 : (p.op != 4) = true := oeq_f (by omega)
  have u5 : (p.op == 5) = false := ieq_f (by omega)
  have v5 : (p.op != 5) = true := oeq_f (by omega)
  have u6 : (p.op == 6) = false := ieq_f (by omega)
  have v6 : (p.op != 6) = true := oeq_f (by omega)
  by_cases ka : 0 ≤ p.var
  · have za : decide (p.var < 0) = false := by simpa using ka
    by_cases kb : p.var ≤ 5
    · have zb : decide (5 < p.var) = false := by simpa using kb
      by_cases kc : p.n = 0
      · have zc : (p.n != 0) = false := by simpa using kc
        by_cases kd : p.m = 0
        · have zd : (p.m != 0) = false := by simpa using kd
          by_cases ke : p.ctor = 0
          · have ze : (p.ctor != 0) = false := by simpa using ke
            have HR : Hid (dec (OwnOK l t p) = true) := dec_t (⟨fun _ => by omega, fun h => by omega, fun h => by omega, fun h => by omega, .inr (.inl hop)⟩)
            clear ka kb kc kd ke hop
            go_enter Tryz.func60, Tryz.ntmps60
            go_wp2_with fail
            go_ret
            exact ⟨ret_bool HR.out.symm, HB.out _ _⟩
          · have ze : (p.ctor != 0) = true := by simpa using ke
            have HR : Hid (dec (OwnOK l t p) = false) := dec_f (fun h => by have := h.2.2.2.1 (by omega); omega)
            clear ka kb kc kd ke hop
            go_enter Tryz.func60, Tryz.ntmps60
            go_wp2_with fail
            go_ret
            exact ⟨ret_bool HR.out.symm, HB.out _ _⟩
        · have zd : (p.m != 0) = true := by simpa using kd
          have HR : Hid (dec (OwnOK l t p) = false) := dec_f (fun h => by have := h.2.2.1 (by omega); omega)
          clear ka kb kc kd hop
          go_enter Tryz.func60, Tryz.ntmps60
          go_wp2_with fail
          go_ret
          exact ⟨ret_bool HR.out.symm, HB.out _ _⟩
      · have zc : (p.n != 0) = true := by simpa using kc
        have HR : Hid (dec (OwnOK l t p) = false) := dec_f (fun h => by have := h.2.2.1 (by omega); omega)
        clear ka kb kc hop
        go_enter Tryz.func60, Tryz.ntmps60
        go_wp2_with fail
        go_ret
        exact ⟨ret_bool HR.out.symm, HB.out _ _⟩
    · have zb : decide (5 < p.var) = true := by simpa using kb
      have HR : Hid (dec (OwnOK l t p) = false) := dec_f (fun h => by have := h.1 (by omega); omega)
      clear ka kb hop
      go_enter Tryz.func60, Tryz.ntmps60
      go_wp2_with fail
      go_ret
      exact ⟨ret_bool HR.out.symm, HB.out _ _⟩
  · have za : decide (p.var < 0) = true := by simpa using ka
    have HR : Hid (dec (OwnOK l t p) = false) := dec_f (fun h => by have := h.1 (by omega); omega)
    clear ka hop
    go_enter Tryz.func60, Tryz.ntmps60
    go_wp2_with fail
    go_ret
    exact ⟨ret_bool HR.out.symm, HB.out _ _⟩
set_option maxHeartbeats 1600000 in
theorem own_3 (A D : Option Addr) (l : List Da) (cap ep : Nat) (t : Ty) (p : Pt) (w : World) (hr : RDas w w.heap.size A l) (ht : TyOK l t) (hop : p.op = 3) :
    Calls Tryz.prog 60 #[.slice A l.length cap, .agg #[.int .i64 t.data, .int .i64 t.index], .agg #[.int .i64 p.op, .int .i64 p.ctor, .int .i64 p.n, .int .i64 p.m, .int .i64 p.var, .slice D p.kids.length ep]] w fun e w' => e = .returned (.bool (dec (OwnOK l t p))) ∧ Below w.heap.size w w' := by
  have HB : Hid (∀ o o' : Obj, Below w.heap.size w ((w.alloc o).alloc o')) := fun o o' => ((Below.refl _ _).alloc (Nat.le_refl _) _).alloc (by simp) _
  have u1 : (p.op == 1) = false := ieq_f (by omega)
  have v1 : (p.op != 1) = true := oeq_f (by omega)
  have u2 : (p.op == 2) = false := ieq_f (by omega)
  have v2 : (p.op != 2) = true := oeq_f (by omega)
  have u3 := ieq_t hop
  have v3 := oeq_t hop
  have u4 : (p.op == 4) = false := ieq_f (by omega)
  have v4 : (p.op != 4) = true := oeq_f (by omega)
  have u5 : (p.op == 5) = false := ieq_f (by omega)
  have v5 : (p.op != 5) = true := oeq_f (by omega)
  have u6 : (p.op == 6) = false := ieq_f (by omega)
  have v6 : (p.op != 6) = true := oeq_f (by omega)
  by_cases ka : p.var = 0
  · have za : (p.var != 0) = false := by simpa using ka
    by_cases ke : p.ctor = 0
    · have ze : (p.ctor != 0) = false := by simpa using ke
      by_cases kf : t.data = -1
      · have zf : (t.data == -1) = true := by simpa using kf
        by_cases kg : 0 ≤ p.n
        · have zg : decide (0 ≤ p.n) = true := by simpa using kg
          by_cases ki : p.n ≤ p.m
          · have zi : decide (p.n ≤ p.m) = true := by simpa using ki
            by_cases kj : p.m ≤ 9
            · have zj : decide (p.m ≤ 9) = true := by simpa using kj
              have HR : Hid (dec (OwnOK l t p) = true) := dec_t (⟨fun _ => by omega, fun h => by omega, fun h => by omega, fun h => by omega, .inr (.inr (.inr (.inr (.inl ⟨hop, kf, kg, ki, kj⟩))))⟩)
              clear ka ke kf kg ki kj hop
              go_enter Tryz.func60, Tryz.ntmps60
              go_wp2_with fail
              go_ret
              exact ⟨ret_bool HR.out.symm, HB.out _ _⟩
            · have zj : decide (p.m ≤ 9) = false := by simpa using kj
              have HR : Hid (dec (OwnOK l t p) = false) := dec_f (fun h => by rcases h.2.2.2.2 with h | h | h | h | h | ⟨h, _⟩ <;> omega)
              clear ka ke kf kg ki kj hop
              go_enter Tryz.func60, Tryz.ntmps60
              go_wp2_with fail
              go_ret
              exact ⟨ret_bool HR.out.symm, HB.out _ _⟩
          · have zi : decide (p.n ≤ p.m) = false := by simpa using ki
            have HR : Hid (dec (OwnOK l t p) = false) := dec_f (fun h => by rcases h.2.2.2.2 with h | h | h | h | h | ⟨h, _⟩ <;> omega)
            clear ka ke kf kg ki hop
            go_enter Tryz.func60, Tryz.ntmps60
            go_wp2_with fail
            go_ret
            exact ⟨ret_bool HR.out.symm, HB.out _ _⟩
        · have zg : decide (0 ≤ p.n) = false := by simpa using kg
          have HR : Hid (dec (OwnOK l t p) = false) := dec_f (fun h => by rcases h.2.2.2.2 with h | h | h | h | h | ⟨h, _⟩ <;> omega)
          clear ka ke kf kg hop
          go_enter Tryz.func60, Tryz.ntmps60
          go_wp2_with fail
          go_ret
          exact ⟨ret_bool HR.out.symm, HB.out _ _⟩
      · have zf : (t.data == -1) = false := by simpa using kf
        have HR : Hid (dec (OwnOK l t p) = false) := dec_f (fun h => by rcases h.2.2.2.2 with h | h | h | h | h | ⟨h, _⟩ <;> omega)
        clear ka ke kf hop
        go_enter Tryz.func60, Tryz.ntmps60
        go_wp2_with fail
        go_ret
        exact ⟨ret_bool HR.out.symm, HB.out _ _⟩
    · have ze : (p.ctor != 0) = true := by simpa using ke
      have HR : Hid (dec (OwnOK l t p) = false) := dec_f (fun h => by have := h.2.2.2.1 (by omega); omega)
      clear ka ke hop
      go_enter Tryz.func60, Tryz.ntmps60
      go_wp2_with fail
      go_ret
      exact ⟨ret_bool HR.out.symm, HB.out _ _⟩
  · have za : (p.var != 0) = true := by simpa using ka
    have HR : Hid (dec (OwnOK l t p) = false) := dec_f (fun h => by have := h.2.1 (by omega); omega)
    clear ka hop
    go_enter Tryz.func60, Tryz.ntmps60
    go_wp2_with fail
    go_ret
    exact ⟨ret_bool HR.out.symm, HB.out _ _⟩
set_option maxHeartbeats 1600000 in
theorem own_4 (A D : Option Addr) (l : List Da) (cap ep : Nat) (t : Ty) (p : Pt) (w : World) (hr : RDas w w.heap.size A l) (ht : TyOK l t) (hop : p.op = 4) :
    Calls Tryz.prog 60 #[.slice A l.length cap, .agg #[.int .i64 t.data, .int .i64 t.index], .agg #[.int .i64 p.op, .int .i64 p.ctor, .int .i64 p.n, .int .i64 p.m, .int .i64 p.var, .slice D p.kids.length ep]] w fun e w' => e = .returned (.bool (dec (OwnOK l t p))) ∧ Below w.heap.size w w' := by
  have HB : Hid (∀ o o' : Obj, Below w.heap.size w ((w.alloc o).alloc o')) := fun o o' => ((Below.refl _ _).alloc (Nat.le_refl _) _).alloc (by simp) _
  have u1 : (p.op == 1) = false := ieq_f (by omega)
  have v1 : (p.op != 1) = true := oeq_f (by omega)
  have u2 : (p.op == 2) = false := ieq_f (by omega)
  have v2 : (p.op != 2) = true := oeq_f (by omega)
  have u3 : (p.op == 3) = false := ieq_f (by omega)
  have v3 : (p.op != 3) = true := oeq_f (by omega)
  have u4 := ieq_t hop
  have v4 := oeq_t hop
  have u5 : (p.op == 5) = false := ieq_f (by omega)
  have v5 : (p.op != 5) = true := oeq_f (by omega)
  have u6 : (p.op == 6) = false := ieq_f (by omega)
  have v6 : (p.op != 6) = true := oeq_f (by omega)
  by_cases ka : p.var = 0
  · have za : (p.var != 0) = false := by simpa using ka
    by_cases kc : p.n = 0
    · have zc : (p.n != 0) = false := by simpa using kc
      by_cases kd : p.m = 0
      · have zd : (p.m != 0) = false := by simpa using kd
        have HD : Hid (dec (p.ctor ∈ ctR l t) = dec (OwnOK l t p)) := dec_congr ⟨fun h => ⟨fun _ => by omega, fun _ => ka, fun _ => ⟨kc, kd⟩, fun h => absurd hop h, .inr (.inr (.inr (.inr (.inr ⟨hop, h⟩))))⟩, fun h => h.mem hop⟩
        clear ka kc kd hop
        have Hr := Lib.hid hr
        have HT := Lib.hid ht
        generalize hw0 : (w.alloc (.cells #[.int .i64 t.data, .int .i64 t.index] 35)).alloc (.cells #[.int .i64 p.op, .int .i64 p.ctor, .int .i64 p.n, .int .i64 p.m, .int .i64 p.var, .slice D p.kids.length ep] 38) = w0
        have hb0 := below_box2 hw0
        have HXT : Hid (Bx w0 w.heap.size t) := by rw [← hw0]; exact ⟨by simp [go_sem], by simp [go_sem]⟩
        have HXP : Hid (PBx w0 (w.heap.size + 1) p (.slice D p.kids.length ep)) := by rw [← hw0]; exact ⟨by simp [go_sem], by simp [go_sem], by simp [go_sem], by simp [go_sem], by simp [go_sem], by simp [go_sem]⟩
        have HW := Lib.hid hw0
        clear hw0 hr ht
        have HKS : Hid (∀ W, Below w0.heap.size w0 W → W.cell? ⟨w.heap.size, 0, none⟩ = some (.int .i64 t.data) ∧ W.cell? ⟨w.heap.size, 1, none⟩ = some (.int .i64 t.index) ∧ W.cell? ⟨w.heap.size + 1, 1, none⟩ = some (.int .i64 p.ctor)) := fun W h => ⟨(HXT.out.at_ h).1, (HXT.out.at_ h).2, (HXP.out.at_ h).2.1⟩
        have SQ := HKS.out w0.drew (Below.refl _ w0).drew
        have y0 := HXP.out.1
        have y2 := HXP.out.2.2.1
        have y3 := HXP.out.2.2.2.1
        have y4 := HXP.out.2.2.2.2.1
        go_enter Tryz.func60, Tryz.ntmps60
        go_wp2_with fail
        rw [HW.out]
        go_region_held3 (fun w' => w'.cell? ⟨w.heap.size, 0, none⟩ = some (.int .i64 t.data) ∧ w'.cell? ⟨w.heap.size, 1, none⟩ = some (.int .i64 t.index) ∧ w'.cell? ⟨w.heap.size + 1, 1, none⟩ = some (.int .i64 p.ctor)) (with_reducible exact SQ) (first | (go_at_call 78; (with_reducible refine (l1Ctors_all _ l _ t w0.drew (Hr.out.at_ hb0.drew) HT.out).mono ?_); rintro e w1 ⟨v1, rfl, ho, hb1'⟩; have hb1 : Below w0.heap.size w0 w1 := ⟨hb1'.os, hb1'.tape, hb1'.output, hb1'.size, hb1'.block⟩; obtain ⟨A1, c1, rfl, hri⟩ := ho.form (by have := ctR_len l t; unfold maxLen; omega); have HRI := Lib.hid hri; have SQ := HKS.out _ hb1; clear hri ho hb1') | (go_at_call 77; (with_reducible refine (has_any _ _ _ _ _ HRI.out).mono ?_); rw [HD.out]; rintro e w2 ⟨rfl, rfl⟩))
        go_wp2_with fail
        go_ret
        exact ⟨rfl, below_aft hb0 hb1 hb0.size⟩
      · have zd : (p.m != 0) = true := by simpa using kd
        have HR : Hid (dec (OwnOK l t p) = false) := dec_f (fun h => by have := h.2.2.1 (by omega); omega)
        clear ka kc kd hop
        go_enter Tryz.func60, Tryz.ntmps60
        go_wp2_with fail
        go_ret
        exact ⟨ret_bool HR.out.symm, HB.out _ _⟩
    · have zc : (p.n != 0) = true := by simpa using kc
      have HR : Hid (dec (OwnOK l t p) = false) := dec_f (fun h => by have := h.2.2.1 (by omega); omega)
      clear ka kc hop
      go_enter Tryz.func60, Tryz.ntmps60
      go_wp2_with fail
      go_ret
      exact ⟨ret_bool HR.out.symm, HB.out _ _⟩
  · have za : (p.var != 0) = true := by simpa using ka
    have HR : Hid (dec (OwnOK l t p) = false) := dec_f (fun h => by have := h.2.1 (by omega); omega)
    clear ka hop
    go_enter Tryz.func60, Tryz.ntmps60
    go_wp2_with fail
    go_ret
    exact ⟨ret_bool HR.out.symm, HB.out _ _⟩
set_option maxHeartbeats 1600000 in
theorem own_5 (A D : Option Addr) (l : List Da) (cap ep : Nat) (t : Ty) (p : Pt) (w : World) (hr : RDas w w.heap.size A l) (ht : TyOK l t) (hop : p.op = 5) :
    Calls Tryz.prog 60 #[.slice A l.length cap, .agg #[.int .i64 t.data, .int .i64 t.index], .agg #[.int .i64 p.op, .int .i64 p.ctor, .int .i64 p.n, .int .i64 p.m, .int .i64 p.var, .slice D p.kids.length ep]] w fun e w' => e = .returned (.bool (dec (OwnOK l t p))) ∧ Below w.heap.size w w' := by
  have HB : Hid (∀ o o' : Obj, Below w.heap.size w ((w.alloc o).alloc o')) := fun o o' => ((Below.refl _ _).alloc (Nat.le_refl _) _).alloc (by simp) _
  have u1 : (p.op == 1) = false := ieq_f (by omega)
  have v1 : (p.op != 1) = true := oeq_f (by omega)
  have u2 : (p.op == 2) = false := ieq_f (by omega)
  have v2 : (p.op != 2) = true := oeq_f (by omega)
  have u3 : (p.op == 3) = false := ieq_f (by omega)
  have v3 : (p.op != 3) = true := oeq_f (by omega)
  have u4 : (p.op == 4) = false := ieq_f (by omega)
  have v4 : (p.op != 4) = true := oeq_f (by omega)
  have u5 := ieq_t hop
  have v5 := oeq_t hop
  have u6 : (p.op == 6) = false := ieq_f (by omega)
  have v6 : (p.op != 6) = true := oeq_f (by omega)
  by_cases ka : p.var = 0
  · have za : (p.var != 0) = false := by simpa using ka
    by_cases kc : p.n = 0
    · have zc : (p.n != 0) = false := by simpa using kc
      by_cases kd : p.m = 0
      · have zd : (p.m != 0) = false := by simpa using kd
        by_cases ke : p.ctor = 0
        · have ze : (p.ctor != 0) = false := by simpa using ke
          have HR : Hid (dec (OwnOK l t p) = true) := dec_t (⟨fun _ => by omega, fun h => by omega, fun h => by omega, fun h => by omega, .inr (.inr (.inl hop))⟩)
          clear ka kc kd ke hop
          go_enter Tryz.func60, Tryz.ntmps60
          go_wp2_with fail
          go_ret
          exact ⟨ret_bool HR.out.symm, HB.out _ _⟩
        · have ze : (p.ctor != 0) = true := by simpa using ke
          have HR : Hid (dec (OwnOK l t p) = false) := dec_f (fun h => by have := h.2.2.2.1 (by omega); omega)
          clear ka kc kd ke hop
          go_enter Tryz.func60, Tryz.ntmps60
          go_wp2_with fail
          go_ret
          exact ⟨ret_bool HR.out.symm, HB.out _ _⟩
      · have zd : (p.m != 0) = true := by simpa using kd
        have HR : Hid (dec (OwnOK l t p) = false) := dec_f (fun h => by have := h.2.2.1 (by omega); omega)
        clear ka kc kd hop
        go_enter Tryz.func60, Tryz.ntmps60
        go_wp2_with fail
        go_ret
        exact ⟨ret_bool HR.out.symm, HB.out _ _⟩
    · have zc : (p.n != 0) = true := by simpa using kc
      have HR : Hid (dec (OwnOK l t p) = false) := dec_f (fun h => by have := h.2.2.1 (by omega); omega)
      clear ka kc hop
      go_enter Tryz.func60, Tryz.ntmps60
      go_wp2_with fail
      go_ret
      exact ⟨ret_bool HR.out.symm, HB.out _ _⟩
  · have za : (p.var != 0) = true := by simpa using ka
    have HR : Hid (dec (OwnOK l t p) = false) := dec_f (fun h => by have := h.2.1 (by omega); omega)
    clear ka hop
    go_enter Tryz.func60, Tryz.ntmps60
    go_wp2_with fail
    go_ret
    exact ⟨ret_bool HR.out.symm, HB.out _ _⟩
set_option maxHeartbeats 1600000 in
theorem own_6 (A D : Option Addr) (l : List Da) (cap ep : Nat) (t : Ty) (p : Pt) (w : World) (hr : RDas w w.heap.size A l) (ht : TyOK l t) (hop : p.op = 6) :
    Calls Tryz.prog 60 #[.slice A l.length cap, .agg #[.int .i64 t.data, .int .i64 t.index], .agg #[.int .i64 p.op, .int .i64 p.ctor, .int .i64 p.n, .int .i64 p.m, .int .i64 p.var, .slice D p.kids.length ep]] w fun e w' => e = .returned (.bool (dec (OwnOK l t p))) ∧ Below w.heap.size w w' := by
  have HB : Hid (∀ o o' : Obj, Below w.heap.size w ((w.alloc o).alloc o')) := fun o o' => ((Below.refl _ _).alloc (Nat.le_refl _) _).alloc (by simp) _
  have u1 : (p.op == 1) = false := ieq_f (by omega)
  have v1 : (p.op != 1) = true := oeq_f (by omega)
  have u2 : (p.op == 2) = false := ieq_f (by omega)
  have v2 : (p.op != 2) = true := oeq_f (by omega)
  have u3 : (p.op == 3) = false := ieq_f (by omega)
  have v3 : (p.op != 3) = true := oeq_f (by omega)
  have u4 : (p.op == 4) = false := ieq_f (by omega)
  have v4 : (p.op != 4) = true := oeq_f (by omega)
  have u5 : (p.op == 5) = false := ieq_f (by omega)
  have v5 : (p.op != 5) = true := oeq_f (by omega)
  have u6 := ieq_t hop
  have v6 := oeq_t hop
  by_cases ka : 0 ≤ p.var
  · have za : decide (p.var < 0) = false := by simpa using ka
    by_cases kb : p.var ≤ 5
    · have zb : decide (5 < p.var) = false := by simpa using kb
      by_cases kc : p.n = 0
      · have zc : (p.n != 0) = false := by simpa using kc
        by_cases kd : p.m = 0
        · have zd : (p.m != 0) = false := by simpa using kd
          by_cases ke : p.ctor = 0
          · have ze : (p.ctor != 0) = false := by simpa using ke
            have HR : Hid (dec (OwnOK l t p) = true) := dec_t (⟨fun _ => by omega, fun h => by omega, fun h => by omega, fun h => by omega, .inr (.inr (.inr (.inl hop)))⟩)
            clear ka kb kc kd ke hop
            go_enter Tryz.func60, Tryz.ntmps60
            go_wp2_with fail
            go_ret
            exact ⟨ret_bool HR.out.symm, HB.out _ _⟩
          · have ze : (p.ctor != 0) = true := by simpa using ke
            have HR : Hid (dec (OwnOK l t p) = false) := dec_f (fun h => by have := h.2.2.2.1 (by omega); omega)
            clear ka kb kc kd ke hop
            go_enter Tryz.func60, Tryz.ntmps60
            go_wp2_with fail
            go_ret
            exact ⟨ret_bool HR.out.symm, HB.out _ _⟩
        · have zd : (p.m != 0) = true := by simpa using kd
          have HR : Hid (dec (OwnOK l t p) = false) := dec_f (fun h => by have := h.2.2.1 (by omega); omega)
          clear ka kb kc kd hop
          go_enter Tryz.func60, Tryz.ntmps60
          go_wp2_with fail
          go_ret
          exact ⟨ret_bool HR.out.symm, HB.out _ _⟩
      · have zc : (p.n != 0) = true := by simpa using kc
        have HR : Hid (dec (OwnOK l t p) = false) := dec_f (fun h => by have := h.2.2.1 (by omega); omega)
        clear ka kb kc hop
        go_enter Tryz.func60, Tryz.ntmps60
        go_wp2_with fail
        go_ret
        exact ⟨ret_bool HR.out.symm, HB.out _ _⟩
    · have zb : decide (5 < p.var) = true := by simpa using kb
      have HR : Hid (dec (OwnOK l t p) = false) := dec_f (fun h => by have := h.1 (by omega); omega)
      clear ka kb hop
      go_enter Tryz.func60, Tryz.ntmps60
      go_wp2_with fail
      go_ret
      exact ⟨ret_bool HR.out.symm, HB.out _ _⟩
  · have za : decide (p.var < 0) = true := by simpa using ka
    have HR : Hid (dec (OwnOK l t p) = false) := dec_f (fun h => by have := h.1 (by omega); omega)
    clear ka hop
    go_enter Tryz.func60, Tryz.ntmps60
    go_wp2_with fail
    go_ret
    exact ⟨ret_bool HR.out.symm, HB.out _ _⟩
set_option maxHeartbeats 1600000 in
theorem own_x (A D : Option Addr) (l : List Da) (cap ep : Nat) (t : Ty) (p : Pt) (w : World) (hr : RDas w w.heap.size A l) (ht : TyOK l t) (hop1 : ¬ p.op = 1) (hop2 : ¬ p.op = 2) (hop3 : ¬ p.op = 3) (hop4 : ¬ p.op = 4) (hop5 : ¬ p.op = 5) (hop6 : ¬ p.op = 6) :
    Calls Tryz.prog 60 #[.slice A l.length cap, .agg #[.int .i64 t.data, .int .i64 t.index], .agg #[.int .i64 p.op, .int .i64 p.ctor, .int .i64 p.n, .int .i64 p.m, .int .i64 p.var, .slice D p.kids.length ep]] w fun e w' => e = .returned (.bool (dec (OwnOK l t p))) ∧ Below w.heap.size w w' := by
  have HB : Hid (∀ o o' : Obj, Below w.heap.size w ((w.alloc o).alloc o')) := fun o o' => ((Below.refl _ _).alloc (Nat.le_refl _) _).alloc (by simp) _
  have u1 := ieq_f hop1
  have v1 := oeq_f hop1
  have u2 := ieq_f hop2
  have v2 := oeq_f hop2
  have u3 := ieq_f hop3
  have v3 := oeq_f hop3
  have u4 := ieq_f hop4
  have v4 := oeq_f hop4
  have u5 := ieq_f hop5
  have v5 := oeq_f hop5
  have u6 := ieq_f hop6
  have v6 := oeq_f hop6
  by_cases ka : p.var = 0
  · have za : (p.var != 0) = false := by simpa using ka
    by_cases kc : p.n = 0
    · have zc : (p.n != 0) = false := by simpa using kc
      by_cases kd : p.m = 0
      · have zd : (p.m != 0) = false := by simpa using kd
        by_cases ke : p.ctor = 0
        · have ze : (p.ctor != 0) = false := by simpa using ke
          have HR : Hid (dec (OwnOK l t p) = false) := dec_f (fun h => by rcases h.2.2.2.2 with h | h | h | h | h | ⟨h, _⟩ <;> omega)
          clear ka kc kd ke hop1 hop2 hop3 hop4 hop5 hop6
          go_enter Tryz.func60, Tryz.ntmps60
          go_wp2_with fail
          go_ret
          exact ⟨ret_bool HR.out.symm, HB.out _ _⟩
        · have ze : (p.ctor != 0) = true := by simpa using ke
          have HR : Hid (dec (OwnOK l t p) = false) := dec_f (fun h => by have := h.2.2.2.1 (by omega); omega)
          clear ka kc kd ke hop1 hop2 hop3 hop4 hop5 hop6
          go_enter Tryz.func60, Tryz.ntmps60
          go_wp2_with fail
          go_ret
          exact ⟨ret_bool HR.out.symm, HB.out _ _⟩
      · have zd : (p.m != 0) = true := by simpa using kd
        have HR : Hid (dec (OwnOK l t p) = false) := dec_f (fun h => by have := h.2.2.1 (by omega); omega)
        clear ka kc kd hop1 hop2 hop3 hop4 hop5 hop6
        go_enter Tryz.func60, Tryz.ntmps60
        go_wp2_with fail
        go_ret
        exact ⟨ret_bool HR.out.symm, HB.out _ _⟩
    · have zc : (p.n != 0) = true := by simpa using kc
      have HR : Hid (dec (OwnOK l t p) = false) := dec_f (fun h => by have := h.2.2.1 (by omega); omega)
      clear ka kc hop1 hop2 hop3 hop4 hop5 hop6
      go_enter Tryz.func60, Tryz.ntmps60
      go_wp2_with fail
      go_ret
      exact ⟨ret_bool HR.out.symm, HB.out _ _⟩
  · have za : (p.var != 0) = true := by simpa using ka
    have HR : Hid (dec (OwnOK l t p) = false) := dec_f (fun h => by have := h.2.1 (by omega); omega)
    clear ka hop1 hop2 hop3 hop4 hop5 hop6
    go_enter Tryz.func60, Tryz.ntmps60
    go_wp2_with fail
    go_ret
    exact ⟨ret_bool HR.out.symm, HB.out _ _⟩
theorem own_any (A D : Option Addr) (l : List Da) (cap ep : Nat) (t : Ty) (p : Pt) (w : World) (hr : RDas w w.heap.size A l) (ht : TyOK l t) :
    Calls Tryz.prog 60 #[.slice A l.length cap, .agg #[.int .i64 t.data, .int .i64 t.index], .agg #[.int .i64 p.op, .int .i64 p.ctor, .int .i64 p.n, .int .i64 p.m, .int .i64 p.var, .slice D p.kids.length ep]] w fun e w' => e = .returned (.bool (dec (OwnOK l t p))) ∧ Below w.heap.size w w' := by
  by_cases h1 : p.op = 1
  · exact own_1 A D l cap ep t p w hr ht h1
  by_cases h2 : p.op = 2
  · exact own_2 A D l cap ep t p w hr ht h2
  by_cases h3 : p.op = 3
  · exact own_3 A D l cap ep t p w hr ht h3
  by_cases h4 : p.op = 4
  · exact own_4 A D l cap ep t p w hr ht h4
  by_cases h5 : p.op = 5
  · exact own_5 A D l cap ep t p w hr ht h5
  by_cases h6 : p.op = 6
  · exact own_6 A D l cap ep t p w hr ht h6
  exact own_x A D l cap ep t p w hr ht h1 h2 h3 h4 h5 h6
end Go.Proofs.YtbdiahnelnbdnaaGreat
/-
  How many nodes a value has, up to a number, and when it is one within the limits: the document's functions. No statement is proved here.
-/
namespace Go.Proofs.YtbdiahnelnbdnaaGreat
open Go.RowKit Go.Sort Go.Deep
set_option maxRecDepth 100000
set_option linter.unusedVariables false
/-- A count up to a number. -/
def CntOK (N : Nat) (most r : Int) : Prop := ((N : Int) ≤ most → r = N) ∧ (most < N → most < r) ∧ r ≤ N ∧ 1 ≤ r
def CntP (N : Nat) (most : Int) (w : World) (e : Ending) (w' : World) : Prop := ∃ r : Int, e = .returned (.int .i64 r) ∧ CntOK N most r ∧ Below w.heap.size w w'
theorem CntOK.one {most : Int} (h : 0 ≤ most) : CntOK 1 most 1 := ⟨fun _ => rfl, fun h' => by omega, by omega, by omega⟩
theorem CntOK.step {N M : Nat} {most q r : Int} (h : CntOK N most q) (hq : q ≤ most) (hr : CntOK M (most - q) r) : CntOK (N + M) most (q + r) := by
  obtain ⟨a, b, c, d⟩ := h
  obtain ⟨a', b', c', d'⟩ := hr
  have hN : q = N := by
    by_cases e : (N : Int) ≤ most
    · exact a e
    · have := b (by omega); omega
  refine ⟨fun h => ?_, fun h => ?_, ?_, ?_⟩
  · have := a' (by push_cast at h; omega); push_cast; omega
  · have := b' (by push_cast at h; omega); omega
  · push_cast; omega
  · omega
theorem CntOK.over {N M : Nat} {most q : Int} (h : CntOK N most q) (hq : most < q) (hM : N ≤ M) : CntOK M most q := by
  obtain ⟨a, b, c, d⟩ := h
  exact ⟨fun h => by omega, fun _ => hq, by omega, d⟩
end Go.Proofs.YtbdiahnelnbdnaaGreat
/-
  How many nodes a pattern has, up to a number: the document's function. No statement is proved here.
-/
namespace Go.Proofs.YtbdiahnelnbdnaaGreat
open Go.RowKit Go.Sort Go.Deep
set_option maxRecDepth 100000
set_option linter.unusedVariables false
/-- The nodes of a pattern of which the first k parts have been counted. -/
def upKP (ks : List Pt) (k : Nat) : Nat := 1 + k + ((ks.take k).map wP).sum
theorem upKP_zero (ks : List Pt) : upKP ks 0 = 1 := rfl
theorem upKP_succ (ks : List Pt) (k : Nat) (h : k < ks.length) : upKP ks (k + 1) = upKP ks k + (1 + wP ks[k]) := by
  unfold upKP; rw [sum_take_succ wP ks k h]; omega
theorem upKP_all (v : Pt) : upKP v.kids v.kids.length = 1 + wP v := by
  unfold upKP; rw [List.take_length, wP_kids, wPs_sum]; omega
theorem upKP_le (v : Pt) (k : Nat) (h : k ≤ v.kids.length) : upKP v.kids k ≤ 1 + wP v := by
  have := sum_take_le wP v.kids k
  unfold upKP; rw [wP_kids, wPs_sum]; omega
theorem wP_kid (v : Pt) (k : Nat) (h : k < v.kids.length) : wP v.kids[k] ≤ wP v := by
  have h1 := upKP_le v (k + 1) h
  rw [upKP_succ _ _ h] at h1
  omega
def CntPS (d : Nat) : Prop := ∀ (D : Option Addr) (ep : Nat) (v : Pt) (most : Int) (w : World), RPs d w w.heap.size D v.kids → wP v ≤ 1048576 → 0 ≤ most → most ≤ 100 →
  Calls Tryz.prog 46 #[.agg #[.int .i64 v.op, .int .i64 v.ctor, .int .i64 v.n, .int .i64 v.m, .int .i64 v.var, .slice D v.kids.length ep], .int .i64 most] w (CntP (1 + wP v) most w)
set_option maxHeartbeats 800000 in
theorem cntPS_of (d : Nat) (ih : ∀ d', d = d' + 1 → CntPS d') : CntPS d := by
  intro D ep v most w hv hn h0 h1
  have hl := hv.1
  unfold maxLen at hl
  have HV := Lib.hid hv
  have IH := Lib.hid ih
  clear hv ih
  generalize hw0 : w.alloc (.cells #[.int .i64 v.op, .int .i64 v.ctor, .int .i64 v.n, .int .i64 v.m, .int .i64 v.var, .slice D v.kids.length ep] 38) = w0
  have hb0 : Below w.heap.size w w0 := by rw [← hw0]; exact (Below.refl _ _).alloc (Nat.le_refl _) _
  have HXV : Hid (PBx w0 w.heap.size v (.slice D v.kids.length ep)) := by rw [← hw0]; exact ⟨by simp [go_sem], by simp [go_sem], by simp [go_sem], by simp [go_sem], by simp [go_sem], by simp [go_sem]⟩
  have HW := Lib.hid hw0
  clear hw0
  go_enter Tryz.func46, Tryz.ntmps46
  go_wp2_with fail
  rw [HW.out]
  clear HW
  go_loopw [5, 6] (fun n i wr => ∃ k : Nat, k ≤ v.kids.length ∧ i = .int .i64 k ∧ ∃ q : Int, 1 ≤ q ∧ q ≤ 2000000 ∧ n = .int .i64 q ∧ Hid (CntOK (upKP v.kids k) most q) ∧ Below w0.heap.size w0 wr) (fun _ i _ => v.kids.length - (intOf i).toNat)
  case atStart => exact ⟨0, by omega, rfl, 1, by omega, by omega, rfl, CntOK.one h0, Below.refl _ _⟩
  case round =>
    obtain ⟨k, hk, rfl, q, hq1, hq2, rfl, HQ, hb⟩ := hrel
    have hbw : Below w.heap.size w wr := below_aft hb0 hb hb0.size
    obtain ⟨f0, f1, f2, f3, f4, f5⟩ := HXV.out.at_ hb
    have HLE := Lib.hid (upKP_le v k hk)
    by_cases hlt : k < v.kids.length
    · have hi : (k : Int) < (v.kids.length : Int) := by omega
      by_cases hq : q ≤ most
      · obtain ⟨b, off, rfl, hbB, hvk⟩ := (HV.out.below hbw (Nat.le_refl _)).2 k hlt
        obtain ⟨d', hd, D', cp, c0, c1, c2, c3, c4, c5, hm⟩ := hvk.parts
        have Hm : Hid (RPs d' wr wr.heap.size D' v.kids[k].kids) := hm.keep (fun _ _ => rfl) hbw.size
        have IHd := Lib.hid (IH.out d' hd)
        have HWK := Lib.hid (wP_kid v k hlt)
        have HS := Lib.hid (upKP_succ v.kids k hlt)
        have HL2 := Lib.hid (upKP_le v (k + 1) hlt)
        clear hm hvk hd
        go_wp2_with (go_at_call 46; refine (IHd.out _ _ v.kids[k] (most - q) _ Hm.out (by have := HWK.out; omega) (by omega) (by omega)).mono ?_; rintro e w1 ⟨r, rfl, hr, hb1⟩; have HR := Lib.hid hr; have hr1 := hr.2.2.1; have hr2 := hr.2.2.2; have hww := HWK.out; have HRL : Hid (r ≤ 1048577) := (by unfold Hid; push_cast at hr1; omega); clear hr hr1 hww; have hrl := HRL.out)
        have hc := HQ.out.step hq HR.out
        rw [← HS.out] at hc
        have hc3 := hc.2.2.1
        have hb2 := below_aft hb hb1 hb.size
        have hle := HL2.out
        go_roundw
        case rel => exact ⟨k + 1, by omega, by go_num, _, by omega, by omega, rfl, hc, hb2⟩
        case measure => simp [intOf]; omega
      · have hq' : most < q := by omega
        have HO : Hid (CntOK (1 + wP v) most q) := HQ.out.over hq' HLE.out
        go_wp2_with fail
        go_ret
        exact ⟨q, rfl, HO.out, hbw⟩
    · have he : k = v.kids.length := by omega
      have hi : (v.kids.length : Int) ≤ (k : Int) := by omega
      have HO : Hid (CntOK (1 + wP v) most q) := by unfold Hid; rw [← upKP_all, ← he]; exact HQ.out
      clear he
      go_wp2_with fail
      go_ret
      exact ⟨q, rfl, HO.out, hbw⟩
theorem cntPS_any : ∀ d, CntPS d
  | 0 => cntPS_of 0 (fun _ h => by omega)
  | d + 1 => cntPS_of (d + 1) (fun d' h => (Nat.succ.inj h) ▸ cntPS_any d)
end Go.Proofs.YtbdiahnelnbdnaaGreat
/-
  firstChoices of the program: an alternative. No statement is proved here.
-/
namespace Go.Proofs.YtbdiahnelnbdnaaGreat
open Go.RowKit Go.Sort Go.Deep
set_option maxRecDepth 100000
set_option linter.unusedVariables false
/-- What is returned: a row of the call's own; the parts lie in old blocks or in new ones, none of them the row's. -/
def FcP (B lo : Nat) (v : Value) (w' : World) (b : Nat) : Prop := (b < B ∨ lo ≤ b) ∧ b < w'.heap.size ∧ some b ≠ v.ownBlock
def FcQ (d B : Nat) (p : Pt) (w : World) (e : Ending) (w' : World) : Prop := ∃ v xs, e = .returned v ∧ w'.ownsRow w.heap.size 38 6 v (spP p).length xs ∧ RowQ d w' (FcP B w.heap.size v w') (spP p) xs ∧ Below w.heap.size w w'
def FcC (d : Nat) : Prop := ∀ (B : Nat) (D : Option Addr) (ep : Nat) (p : Pt) (w : World), okQ p = true → RPs d w B D p.kids → B ≤ w.heap.size → wP p ≤ 100 →
  Calls Tryz.prog 26 #[.agg #[.int .i64 p.op, .int .i64 p.ctor, .int .i64 p.n, .int .i64 p.m, .int .i64 p.var, .slice D p.kids.length ep]] w (FcQ (d + 1) B p w)
theorem RowQ.more {d d' : Nat} {w : World} {P : Nat → Prop} {l : List Pt} {xs : List Value} (h : RowQ d w P l xs) (hd : d ≤ d') : RowQ d' w P l xs := ⟨h.1, fun j hj => by
  obtain ⟨A', cap, e0, e1, e2, e3, e4, e5, e6⟩ := h.2 j hj
  exact ⟨A', cap, e0, e1, e2, e3, e4, e5, e6.more hd⟩⟩
theorem own_short {w : World} {base : Nat} {e : TypeId} {size n m c : Nat} {A : Option Addr} {xs : List Value} (h : w.ownsRow base e size (.slice A n c) n xs) (hm : m ≤ n) (h0 : 0 < n) : w.ownsRow base e size (.slice A m c) m (xs.take (m * size)) := by
  rcases h.2 with ⟨_, h'⟩ | ⟨g, cap, cur, h', hb, hgb, hnc, hcm, hcs, htake⟩
  · omega
  · cases h'
    have hmn : m * size ≤ n * size := Nat.mul_le_mul_right _ hm
    refine ⟨by rw [List.length_take, h.1]; omega, .inr ⟨g, c, cur, rfl, hb, hgb, by omega, hcm, hcs, ?_⟩⟩
    rw [← htake, List.take_take, Nat.min_eq_left hmn]
theorem ownBlock_len (A : Option Addr) (n m c : Nat) : (Value.slice A n c).ownBlock = (Value.slice A m c).ownBlock := by cases A <;> rfl
theorem own_cap {w : World} {base : Nat} {e : TypeId} {size n c : Nat} {A : Option Addr} {xs : List Value} (h : w.ownsRow base e size (.slice A n c) n xs) : n ≤ c ∧ c ≤ maxLen := by
  rcases h.2 with ⟨h', h0⟩ | ⟨g, cap, cur, h', hb, hgb, hnc, hcm, hcs, htake⟩
  · cases h'; exact ⟨by omega, by unfold maxLen; omega⟩
  · cases h'; exact ⟨hnc, hcm⟩
set_option maxHeartbeats 4000000 in
theorem fc_or (d : Nat) (ih : ∀ d', d = d' + 1 → FcC d') (B : Nat) (D : Option Addr) (ep : Nat) (p : Pt) (w : World) (hok : okQ p = true) (hp : RPs d w B D p.kids) (hB : B ≤ w.heap.size) (hN : wP p ≤ 100) (h5 : p.op = 5) :
    Calls Tryz.prog 26 #[.agg #[.int .i64 p.op, .int .i64 p.ctor, .int .i64 p.n, .int .i64 p.m, .int .i64 p.var, .slice D p.kids.length ep]] w (FcQ (d + 1) B p w) := by
  have hk2 := okQ_two p hok h5
  have hl0 : 0 < p.kids.length := by omega
  have hl1 : 1 < p.kids.length := by omega
  have HK2 := Lib.hid hk2
  clear hk2
  obtain ⟨i0, hi0, hz0, hz1, hz2⟩ := info_parts infoOP
  obtain ⟨b, off, rfl, hbB, hv0⟩ := hp.2 0 hl0
  obtain ⟨b', off', e', _, hv1⟩ := hp.2 1 hl1
  cases e'
  obtain ⟨d0, hd0, A0, c0, p0, p1, p2, p3, p4, p5, hm0⟩ := hv0.parts
  obtain ⟨d1, hd1, A1, c1, q0, q1, q2, q3, q4, q5, hm1⟩ := hv1.parts
  obtain rfl : d0 = d1 := by omega
  have ih := ih d0 hd0
  have hok0 := okQs_all (okQ_kids p hok) p.kids[0] (List.getElem_mem _)
  have hok1 := okQs_all (okQ_kids p hok) p.kids[1] (List.getElem_mem _)
  have hwk : wP p.kids[0] ≤ 100 ∧ wP p.kids[1] ≤ 100 := by
    have h1 := wP_kid p 0 hl0
    have h2 := wP_kid p 1 hl1
    omega
  have HSP := Lib.hid (spP_or p hok h5 hl0 hl1)
  have hn1 := spP_le p.kids[0]
  have hn2 := spP_le p.kids[1]
  have hp1 := List.length_pos_iff.2 (spP_ne _ hok0)
  have hp2 := List.length_pos_iff.2 (spP_ne _ hok1)
  have HIH := Lib.hid ih
  have HO0 := Lib.hid hok0
  have HO1 := Lib.hid hok1
  have HWK := Lib.hid hwk
  have HM0 := Lib.hid hm0
  have HM1 := Lib.hid hm1
  have HD0 := Lib.hid hd0
  have u1 := ieq_t h5
  generalize hwx : w.alloc (.cells #[.int .i64 p.op, .int .i64 p.ctor, .int .i64 p.n, .int .i64 p.m, .int .i64 p.var, .slice (some ⟨b, off, none⟩) p.kids.length ep] 38) = wx
  have hbx : Below w.heap.size w wx := by rw [← hwx]; exact (Below.refl _ _).alloc (Nat.le_refl _) _
  have hsx : wx.heap.size = w.heap.size + 1 := by rw [← hwx]; simp
  have hbk : wx.heap[w.heap.size]? = some (.cells #[.int .i64 p.op, .int .i64 p.ctor, .int .i64 p.n, .int .i64 p.m, .int .i64 p.var, .slice (some ⟨b, off, none⟩) p.kids.length ep] 38 (0, 0)) := by rw [← hwx]; exact heap_alloc_new _ _
  have x0 : wx.cell? ⟨w.heap.size, 0, none⟩ = some (.int .i64 p.op) := (cell_of_blk hbk 0).trans rfl
  have x5 : wx.cell? ⟨w.heap.size, 5, none⟩ = some (.slice (some ⟨b, off, none⟩) p.kids.length ep) := (cell_of_blk hbk 5).trans rfl
  have HW := Lib.hid hwx
  have HBX := Lib.hid hbx
  have hbw : b < w.heap.size := by omega
  have HC : Hid (∀ w', Below wx.heap.size wx w' → w'.cell? ⟨w.heap.size, 5, none⟩ = some (.slice (some ⟨b, off, none⟩) 2 ep) ∧ (w'.cell? ⟨b, off, none⟩ = some (.int .i64 p.kids[0].op) ∧ w'.cell? ⟨b, off + 1, none⟩ = some (.int .i64 p.kids[0].ctor) ∧ w'.cell? ⟨b, off + 2, none⟩ = some (.int .i64 p.kids[0].n) ∧ w'.cell? ⟨b, off + 3, none⟩ = some (.int .i64 p.kids[0].m) ∧ w'.cell? ⟨b, off + 4, none⟩ = some (.int .i64 p.kids[0].var) ∧ w'.cell? ⟨b, off + 5, none⟩ = some (.slice A0 p.kids[0].kids.length c0)) ∧ (w'.cell? ⟨b, off + 6, none⟩ = some (.int .i64 p.kids[1].op) ∧ w'.cell? ⟨b, off + 6 + 1, none⟩ = some (.int .i64 p.kids[1].ctor) ∧ w'.cell? ⟨b, off + 6 + 2, none⟩ = some (.int .i64 p.kids[1].n) ∧ w'.cell? ⟨b, off + 6 + 3, none⟩ = some (.int .i64 p.kids[1].m) ∧ w'.cell? ⟨b, off + 6 + 4, none⟩ = some (.int .i64 p.kids[1].var) ∧ w'.cell? ⟨b, off + 6 + 5, none⟩ = some (.slice A1 p.kids[1].kids.length c1))) := fun w' h => by
    have hc : ∀ (o : Nat) (v : Value), w.cell? ⟨b, o, none⟩ = some v → w'.cell? ⟨b, o, none⟩ = some v := fun o v hv => (h.cell (p := ⟨b, o, none⟩) (by show b < wx.heap.size; omega)).trans ((hbx.cell (p := ⟨b, o, none⟩) hbw).trans hv)
    rw [Nat.zero_mul, Nat.add_zero] at p0 p1 p2 p3 p4 p5
    rw [Nat.one_mul] at q0 q1 q2 q3 q4 q5
    refine ⟨by rw [← HK2.out]; exact (h.cell (p := ⟨w.heap.size, 5, none⟩) (by show w.heap.size < wx.heap.size; omega)).trans x5, ⟨hc _ _ p0, hc _ _ p1, hc _ _ p2, hc _ _ p3, hc _ _ p4, hc _ _ p5⟩, hc _ _ q0, hc _ _ q1, hc _ _ q2, hc _ _ q3, hc _ _ q4, hc _ _ q5⟩
  have hsx2 : w.heap.size + 1 ≤ wx.heap.size := by omega
  clear hok hp h5 hv0 hv1 p0 p1 p2 p3 p4 p5 q0 q1 q2 q3 q4 q5 hm0 hm1 hd0 hd1 ih hok0 hok1 hwk hwx hbx hbk hsx
  go_enter Tryz.func26, Tryz.ntmps26
  go_wp2_with fail
  rw [HW.out]
  rw [HK2.out]
  have SQ : Below wx.heap.size wx wx.drew := (Below.refl _ wx).drew
  refine Till.start (S := fun w' => Below wx.heap.size wx w') (z := 11) (by kernel_rfl) ?_
  refine Till.take_ (i := 0) (d := some 12) (v := .pointer (some ⟨w.heap.size, 5, none⟩)) (ls' := #[true, false, false, false, false, false, false, false, false, false, false, false]) rfl rfl (by kernel_rfl) (by kernel_rfl) (by kernel_rfl) (by kernel_rfl) (fun _ _ _ h => h) SQ (Or.inl ⟨by rfl, fun wq hSw => ?_⟩) (by kernel_rfl) ?_
  · obtain ⟨hs, ⟨k0, k1, k2, k3, k4, k5⟩, l0, l1, l2, l3, l4, l5⟩ := HC.out wq hSw
    go_simp
  simp only [Act.put, List.setIfInBounds_toArray, List.set_cons_zero, List.set_cons_succ]
  refine Till.take_ (i := 1) (d := some 13) (v := .slice (some ⟨b, off, none⟩) 2 ep) (ls' := #[true, true, false, false, false, false, false, false, false, false, false, false]) rfl rfl (by kernel_rfl) (by kernel_rfl) (by kernel_rfl) (by kernel_rfl) (fun _ _ _ h => h) SQ (Or.inl ⟨by rfl, fun wq hSw => ?_⟩) (by kernel_rfl) ?_
  · obtain ⟨hs, ⟨k0, k1, k2, k3, k4, k5⟩, l0, l1, l2, l3, l4, l5⟩ := HC.out wq hSw
    go_simp
  simp only [Act.put, List.setIfInBounds_toArray, List.set_cons_zero, List.set_cons_succ]
  refine Till.take_ (i := 2) (d := some 14) (v := .pointer (some ⟨b, off, none⟩)) (ls' := #[true, true, true, false, false, false, false, false, false, false, false, false]) rfl rfl (by kernel_rfl) (by kernel_rfl) (by kernel_rfl) (by kernel_rfl) (fun _ _ _ h => h) SQ (Or.inl ⟨by rfl, fun wq hSw => ?_⟩) (by kernel_rfl) ?_
  · obtain ⟨hs, ⟨k0, k1, k2, k3, k4, k5⟩, l0, l1, l2, l3, l4, l5⟩ := HC.out wq hSw
    go_simp
  simp only [Act.put, List.setIfInBounds_toArray, List.set_cons_zero, List.set_cons_succ]
  refine Till.take_ (i := 3) (d := some 15) (v := .agg #[.int .i64 p.kids[0].op, .int .i64 p.kids[0].ctor, .int .i64 p.kids[0].n, .int .i64 p.kids[0].m, .int .i64 p.kids[0].var, .slice A0 p.kids[0].kids.length c0]) (ls' := #[true, true, true, true, false, false, false, false, false, false, false, false]) rfl rfl (by kernel_rfl) (by kernel_rfl) (by kernel_rfl) (by kernel_rfl) (fun _ _ _ h => h) SQ (Or.inl ⟨by rfl, fun wq hSw => ?_⟩) (by kernel_rfl) ?_
  · obtain ⟨hs, ⟨k0, k1, k2, k3, k4, k5⟩, l0, l1, l2, l3, l4, l5⟩ := HC.out wq hSw
    go_simp
  simp only [Act.put, List.setIfInBounds_toArray, List.set_cons_zero, List.set_cons_succ]
  refine Till.take_ (i := 5) (d := some 17) (v := .pointer (some ⟨w.heap.size, 5, none⟩)) (ls' := #[true, true, true, true, false, true, false, false, false, false, false, false]) rfl rfl (by kernel_rfl) (by kernel_rfl) (by kernel_rfl) (by kernel_rfl) (fun _ _ _ h => h) SQ (Or.inl ⟨by rfl, fun wq hSw => ?_⟩) (by kernel_rfl) ?_
  · obtain ⟨hs, ⟨k0, k1, k2, k3, k4, k5⟩, l0, l1, l2, l3, l4, l5⟩ := HC.out wq hSw
    go_simp
  simp only [Act.put, List.setIfInBounds_toArray, List.set_cons_zero, List.set_cons_succ]
  refine Till.take_ (i := 6) (d := some 18) (v := .slice (some ⟨b, off, none⟩) 2 ep) (ls' := #[true, true, true, true, false, true, true, false, false, false, false, false]) rfl rfl (by kernel_rfl) (by kernel_rfl) (by kernel_rfl) (by kernel_rfl) (fun _ _ _ h => h) SQ (Or.inl ⟨by rfl, fun wq hSw => ?_⟩) (by kernel_rfl) ?_
  · obtain ⟨hs, ⟨k0, k1, k2, k3, k4, k5⟩, l0, l1, l2, l3, l4, l5⟩ := HC.out wq hSw
    go_simp
  simp only [Act.put, List.setIfInBounds_toArray, List.set_cons_zero, List.set_cons_succ]
  refine Till.take_ (i := 7) (d := some 19) (v := .pointer (some ⟨b, off + 6, none⟩)) (ls' := #[true, true, true, true, false, true, true, true, false, false, false, false]) rfl rfl (by kernel_rfl) (by kernel_rfl) (by kernel_rfl) (by kernel_rfl) (fun _ _ _ h => h) SQ (Or.inl ⟨by rfl, fun wq hSw => ?_⟩) (by kernel_rfl) ?_
  · obtain ⟨hs, ⟨k0, k1, k2, k3, k4, k5⟩, l0, l1, l2, l3, l4, l5⟩ := HC.out wq hSw
    go_simp
  simp only [Act.put, List.setIfInBounds_toArray, List.set_cons_zero, List.set_cons_succ]
  refine Till.take_ (i := 8) (d := some 20) (v := .agg #[.int .i64 p.kids[1].op, .int .i64 p.kids[1].ctor, .int .i64 p.kids[1].n, .int .i64 p.kids[1].m, .int .i64 p.kids[1].var, .slice A1 p.kids[1].kids.length c1]) (ls' := #[true, true, true, true, false, true, true, true, true, false, false, false]) rfl rfl (by kernel_rfl) (by kernel_rfl) (by kernel_rfl) (by kernel_rfl) (fun _ _ _ h => h) SQ (Or.inl ⟨by rfl, fun wq hSw => ?_⟩) (by kernel_rfl) ?_
  · obtain ⟨hs, ⟨k0, k1, k2, k3, k4, k5⟩, l0, l1, l2, l3, l4, l5⟩ := HC.out wq hSw
    go_simp
  simp only [Act.put, List.setIfInBounds_toArray, List.set_cons_zero, List.set_cons_succ]
  obtain ⟨wd, hwd⟩ : ∃ wd, wd = wx.drew := ⟨_, rfl⟩
  have hsd : wd.heap.size = wx.heap.size := by rw [hwd]; rfl
  have HSD := Lib.hid hsd
  rw [← hwd] at SQ ⊢
  have hsd2 : wx.heap.size ≤ wd.heap.size := by omega
  have HDD : Hid (Below w.heap.size w wd) := HBX.out.trans (SQ.mono (by omega))
  clear hwd hsd
  have hwsd : w.heap.size < wd.heap.size := by omega
  refine Till.all (rs := [4]) (by kernel_rfl) (by decide) (List.forall_mem_cons.2 ⟨?_, fun _ h => nomatch h⟩)
  refine Till.step rfl (by rfl) ?_
  intro K hK
  go_simp
  go_at_call 26
  refine (HIH.out B A0 c0 p.kids[0] wd HO0.out (HM0.out.below HDD.out hB) (by omega) HWK.out.1).mono ?_
  rintro e1 w1 ⟨v1, xs1, rfl, ho1, hr1, hb1⟩
  have HO1' := Lib.hid ho1
  have HR1 := Lib.hid hr1
  have HB1 : Hid (Below wd.heap.size wd w1) := hb1
  have hs1 : wd.heap.size ≤ w1.heap.size := hb1.size
  have hf1 := own_form ho1
  clear ho1 hr1 hb1
  go_simp
  refine hK _ _ (fun _ => SQ.trans (HB1.out.mono hsd2)) ?_
  clear hK K
  refine Till.all (rs := [9]) (by kernel_rfl) (by decide) (List.forall_mem_cons.2 ⟨?_, fun _ h => nomatch h⟩)
  refine Till.step rfl (by rfl) ?_
  intro K hK
  go_simp
  go_at_call 26
  refine (HIH.out B A1 c1 p.kids[1] w1 HO1.out ((HM1.out.below HDD.out hB).below HB1.out (by omega)) (by omega) HWK.out.2).mono ?_
  rintro e2 w2 ⟨v2, xs2, rfl, ho2, hr2, hb2⟩
  have HB2 : Hid (Below w1.heap.size w1 w2) := hb2
  have hs2 : w1.heap.size ≤ w2.heap.size := hb2.size
  obtain ⟨A2, c2, rfl, hf2⟩ := own_form ho2
  have HO2' := Lib.hid ho2
  have HR2 := Lib.hid hr2
  have HNW := Lib.hid (own_news ho2)
  have HF2 := Lib.hid hf2
  clear ho2 hr2 hb2 hf2
  obtain ⟨g2, rfl⟩ : ∃ g2, A2 = some g2 := by
    cases A2 with
    | none => have := (HNW.out.1 rfl).1; omega
    | some g => exact ⟨g, rfl⟩
  obtain ⟨A5, c5, rfl, hf1⟩ := hf1
  have HF1 := Lib.hid hf1
  clear hf1
  go_simp
  refine hK _ _ (fun _ => SQ.trans ((HB1.out.trans (HB2.out.mono hs1)).mono hsd2)) ?_
  clear hK K
  refine Till.all (rs := [10]) (by kernel_rfl) (by decide) (List.forall_mem_cons.2 ⟨?_, fun _ h => nomatch h⟩)
  refine Till.step rfl (by rfl) ?_
  intro K hK
  refine wp_append_own (.tmp 16) (.tmp 21) 30 (by rfl) wd.heap.size 38 i0 (.agg #[.int .i64 0, .int .i64 0, .int .i64 0, .int .i64 0, .int .i64 0, .slice none 0 0]) 6 64 Tryz.underlying30 hi0 hz0 hz1 hz2 (by rfl) (by decide) (.slice A5 (spP p.kids[0]).length c5) (spP p.kids[0]).length xs1 (by rfl) (own_at HO1'.out (fun b e => HB2.out.block b (HF1.out b e).2)) g2 (spP p.kids[1]).length c2 xs2 (by rfl) HNW.out.2.2 (HNW.out.2.1 g2 rfl) HR2.out.cells (by unfold maxLen; omega) (by omega) (by omega) ?_
  intro v5 w5 hown5 hgr5 hat5
  obtain ⟨A6, c6, rfl, hf6⟩ := own_form hown5
  have hs5 : w2.heap.size ≤ w5.heap.size := hgr5.size
  have HG5 := Lib.hid hgr5
  have HAT := Lib.hid hat5
  have HOW := Lib.hid hown5
  have hcap := own_cap hown5
  have hcm := hcap.2
  unfold maxLen at hcm
  have hcc := hcap.1
  have HB5 : Hid (Below wd.heap.size wd w5) := ((HB1.out.trans (HB2.out.mono hs1))).grown HG5.out (by omega) (fun k e => (HF1.out k e).1)
  clear hown5 hgr5 hat5 hf6 hcap
  refine hK _ _ (fun _ => SQ.trans (HB5.out.mono hsd2)) ?_
  clear hK K
  refine Till.all (rs := [11]) (by kernel_rfl) (by decide) (List.forall_mem_cons.2 ⟨?_, fun _ h => nomatch h⟩)
  refine Till.step rfl (by rfl) ?_
  intro K hK
  go_simp
  refine hK _ _ (fun h => absurd rfl h) ?_
  clear hK K
  refine Till.done (by kernel_rfl) ?_ _
  have HEND : Hid (∀ n : Nat, n = min ((spP p.kids[0]).length + (spP p.kids[1]).length) 401 → FcQ (d + 1) B p w (.returned (.slice A6 n c6)) w5) := fun n hn => by
    have hlen : (spP p).length = n := by rw [HSP.out, List.length_take, List.length_append, hn]; omega
    have hP1 : ∀ b, FcP B wd.heap.size (.slice A5 (spP p.kids[0]).length c5) w1 b → b < w2.heap.size ∧ some b ≠ (Value.slice A5 (spP p.kids[0]).length c5).ownBlock := fun b h => ⟨by have := h.2.1; omega, h.2.2⟩
    have hP2 : ∀ b, FcP B w1.heap.size (.slice (some g2) (spP p.kids[1]).length c2) w2 b → b < w2.heap.size ∧ some b ≠ (Value.slice A5 (spP p.kids[0]).length c5).ownBlock := fun b h => ⟨h.2.1, fun e => by
      have h1 := HF1.out b e.symm
      rcases h.1 with h2 | h2 <;> omega⟩
    have hown : some g2.block = (Value.slice A6 ((spP p.kids[0]).length + (spP p.kids[1]).length) c6).ownBlock → False := fun e => by
      have h3 := HF2.out g2.block (by
        have := HNW.out.1
        rcases HO2'.out.2 with ⟨h', _⟩ | ⟨g, cap, cur, h', _⟩
        · cases h'
        · cases h'; rfl)
      rcases HAT.out with h | h
      · rw [h] at e
        have := HF1.out _ e.symm
        omega
      · rw [h] at e; injection e with e; omega
    have hnw : ∀ b, b < w2.heap.size → some b ≠ (Value.slice A5 (spP p.kids[0]).length c5).ownBlock → some b ≠ (Value.slice A6 n c6).ownBlock := fun b hb hne e => by
      have e' : some b = (Value.slice A6 ((spP p.kids[0]).length + (spP p.kids[1]).length) c6).ownBlock := e.trans (ownBlock_len _ _ _ _)
      rcases HAT.out with h | h
      · rw [h] at e'; exact hne e'
      · rw [h] at e'; injection e' with e'; omega
    have hcell : ∀ (q : Addr) (v : Value), q.block < w2.heap.size → some q.block ≠ (Value.slice A5 (spP p.kids[0]).length c5).ownBlock → w2.cell? q = some v → w5.cell? q = some v := fun q v hq hne hv => (World.cell?_of_block (HG5.out.block q.block hq hne)).trans hv
    have r1 := HR1.out.keep (P' := FcP B w.heap.size (.slice A6 n c6) w5) (fun q v hq hv => hcell q v (hP1 _ hq).1 (hP1 _ hq).2 ((HB2.out.cell hq.2.1).trans hv)) (fun b h => ⟨h.1.imp id (fun h => by omega), by have := h.2.1; omega, hnw b (hP1 b h).1 (hP1 b h).2⟩)
    have r2 := HR2.out.keep (P' := FcP B w.heap.size (.slice A6 n c6) w5) (fun q v hq hv => hcell q v (hP2 _ hq).1 (hP2 _ hq).2 hv) (fun b h => ⟨h.1.imp id (fun h => by omega), by have := h.2.1; omega, hnw b (hP2 b h).1 (hP2 b h).2⟩)
    have r3 := ((r1.app r2).take 401).more (d' := d + 1) (by have := HD0.out; omega)
    rw [← HSP.out] at r3
    refine ⟨_, _, rfl, ?_, r3, HDD.out.trans (HB5.out.mono (by omega))⟩
    have ho := own_short HOW.out (m := n) (by omega) (by omega)
    have e6 : List.take (n * 6) (xs1 ++ xs2) = List.take (401 * 6) (xs1 ++ xs2) := by
      by_cases e : n = 401
      · rw [e]
      · have hl : (xs1 ++ xs2).length = n * 6 := by rw [List.length_append, HNW.out.2.2, HO1'.out.1]; omega
        rw [List.take_of_length_le (by omega), List.take_of_length_le (by omega)]
    rw [hlen, ← e6]
    exact ⟨ho.1, ho.2.imp id (fun ⟨g, cap, cur, h1, h2, h3⟩ => ⟨g, cap, cur, h1, by omega, h3⟩)⟩
  clear SQ
  by_cases hle : (spP p.kids[0]).length + (spP p.kids[1]).length ≤ 401
  · have hI : ((spP p.kids[0]).length : Int) + ((spP p.kids[1]).length : Int) ≤ 401 := by omega
    go_wp2_with fail
    go_ret
    exact HEND.out _ (by omega)
  · have hI : ¬ ((spP p.kids[0]).length : Int) + ((spP p.kids[1]).length : Int) ≤ 401 := by omega
    go_wp2_with fail
    go_ret
    exact HEND.out _ (by omega)
end Go.Proofs.YtbdiahnelnbdnaaGreat
