/-
  A deep copy of a world: the document's function. No statement is proved here.
-/
import Derived.Test.YteoopmogklpnoaaU30
import Derived.Test.YteoopmogklpnoaaU31
import Derived.Laws.AppendOwnNone
namespace Go.Proofs.Yteoopmogklpnoaa
open Go.RowKit Go.Deep
set_option maxRecDepth 100000
set_option linter.unusedVariables false
theorem row_news {w : World} {lo size n : Nat} {e : TypeId} {g cap : Nat} {xs : List Value} (h : w.ownsRow lo e size (.slice (some ⟨g, 0, none⟩) n cap) n xs) : ∀ j u, xs[j]? = some u → w.cell? ((⟨g, 0, none⟩ : Addr).add j) = some u := fun j u hu => h.cells (g := g) rfl j u hu
theorem XTys.ones {n : Nat} {xs : List Value} (hl : xs.length = n * 2) (hx : ∀ j, j < n → ∃ a b, xs[j * 2]? = some (.int .i64 a) ∧ xs[j * 2 + 1]? = some (.int .i64 b)) : ∀ u ∈ xs, u.oneCell' = true := fun u hu => by
  obtain ⟨j, hj, rfl⟩ := List.getElem_of_mem hu
  obtain ⟨a, b, h1, h2⟩ := hx (j / 2) (by omega)
  by_cases e : j % 2 = 0
  · rw [show j / 2 * 2 = j by omega, List.getElem?_eq_getElem hj] at h1
    injection h1 with h1; rw [h1]; rfl
  · rw [show j / 2 * 2 + 1 = j by omega, List.getElem?_eq_getElem hj] at h2
    injection h2 with h2; rw [h2]; rfl
/-- Types are appended to an empty row of the call's own, wherever they lie. -/
theorem wpList_append_tys {w : World} {ops : Array Oper} {rest : List Oper} {o : Oper} {a : Act} {Q : Exit → Act → World → Prop} (hgd : o.guard = none) (s x : Operand)
    (ho : o.op = .call { callee := .builtin .append, args := #[s, x], argTypes := #[32, 32] })
    (base lo N : Nat) (v : Value) (hs : a.eval s = v) (hown : w.ownsRow base 25 2 v 0 []) (A : Option Addr) (m c : Nat) (hx : a.eval x = .slice A m c) (hX : XTys w lo N (.slice A m c) m) (hm : m ≤ 1000) (hbase : base ≤ w.heap.size)
    (h : ∀ A' c' w', XTys w' base N (.slice A' m c') m → w.grownBy w' v.ownBlock → wpList Try.prog ops Q rest (a.put o.dst (.slice A' m c')) w') : wpList Try.prog ops Q (o :: rest) a w := by
  obtain ⟨i33, hi33, hy0, hy1, hy2⟩ := info_parts info34
  obtain ⟨xs, hr, hn, hk⟩ := hX
  rcases hr.2 with ⟨e1, rfl⟩ | ⟨g, cp, cur, e1, hl, hg, _⟩
  · obtain ⟨A', c', e2⟩ := row_form hown
    refine wpList_append_own_none hgd s x 32 ho base 25 i33 2 Try.underlying32 hi33 v 0 [] hs hown (by rw [hx, e1]) ?_
    have := h A' c' w ⟨[], by rw [← e2]; exact hown, by omega, fun j hj => absurd hj (by omega)⟩ (World.grownBy.refl _ _)
    rw [e2]; exact this
  · have e1' := e1
    injection e1 with e1 _ e2
    subst e1
    refine wpList_append_own _ hgd s x 32 ho base 25 i33 _ 2 16 Try.underlying32 hi33 hy0 hy1 hy2 rfl (by decide) v 0 [] hs hown ⟨g, 0, none⟩ m c xs hx hr.1 ?_ (XTys.ones hr.1 hk) (by unfold maxLen; omega) (by omega) hbase ?_
    · subst e2; exact row_news hr
    · intro v' w' hown' hgrow _
      rw [Nat.zero_add] at hown'
      obtain ⟨A', c', rfl⟩ := row_form hown'
      exact h A' c' w' ⟨xs, by simpa using hown', hn, hk⟩ hgrow
/-- What stands in the inner loop. -/
def Copied (wo w4 : World) (N b : Nat) (s : ByteArray) (m : Nat) : Prop := ∃ v, Box2 w4 b s v ∧ XCts w4 wo.heap.size N v m ∧ Below wo.heap.size wo w4
set_option maxHeartbeats 4000000 in
theorem l1Copy_any (A : Option Addr) (lo N n cap : Nat) (w : World) (h : XDas w lo N (.slice A n cap) n) (hN : N ≤ 1000) : Calls Try.prog 84 #[.slice A n cap] w fun e w' => ∃ v, e = .returned v ∧ XDas w' w.heap.size N v n ∧ Below w.heap.size w w' := by
  obtain ⟨i31, hi31, hx0, hx1, hx2⟩ := info_parts info31
  obtain ⟨i28, hi28, hw0, hw1, hw2⟩ := info_parts info28
  obtain ⟨i33, hi33, hy0, hy1, hy2⟩ := info_parts info34
  have hn : n ≤ 1000 := by have := h.choose_spec.2.1; omega
  have HX := Lib.hid h
  clear h
  have HO0 : Hid (XDas (w.alloc (.cells #[] 144)) w.heap.size N (.slice (some ⟨w.heap.size, 0, none⟩) 0 0) 0) :=
    ⟨[], by simpa using World.ownsRow_lit (base := w.heap.size) (e := 144) (size := 2) w #[] 0 (Nat.le_refl _) (by simp) rfl, Nat.zero_le _, fun j h => absurd h (by omega)⟩
  have HB0 : Hid (Below w.heap.size w (w.alloc (.cells #[] 144))) := (Below.refl _ _).alloc (Nat.le_refl _) _
  go_enter Try.func84, Try.ntmps84
  go_wp2_with fail
  go_loopw [3, 4] (fun v i wr => ∃ k : Nat, k ≤ n ∧ i = .int .i64 k ∧ XDas wr w.heap.size N v k ∧ Below w.heap.size w wr) (fun _ i _ => n - (intOf i).toNat)
  case atStart => exact ⟨0, by omega, rfl, HO0.out, HB0.out⟩
  case round =>
    clear HO0 HB0
    obtain ⟨k, hk, rfl, ho, hb⟩ := hrel
    have HO := Lib.hid ho
    have HBW := Lib.hid hb
    clear ho
    by_cases hlt : k < n
    · have hkI : (k : Int) < (n : Int) := by omega
      obtain ⟨g, cp, s, u, m, e, hlg, hgs, ⟨cs, hcs⟩, c0, hss, c1, hu⟩ := (HX.out.keepT (KeepT.below _ _ hb) (Nat.le_refl _) : XDas wr lo N (.slice A n cap) n).at_ hlt
      injection e with e1 e2 e3
      subst e1 e3
      obtain ⟨Au, cu, rfl⟩ := hu.form
      have HU := Lib.hid hu
      have hm : m ≤ 1000 := by have := hu.choose_spec.2.1; omega
      have HC0 : Hid (Copied wr (wr.alloc (.cells #[.string s, .slice none 0 0] 144)) N wr.heap.size s 0) := ⟨.slice none 0 0, heap_alloc_new wr _, XCts.nil _ _ _, (Below.refl _ _).alloc (Nat.le_refl _) _⟩
      have HC1 := Lib.hid c1
      have hzw := hb.size
      clear hu hcs hb c1
      go_wp2_with fail
      obtain ⟨wo, rfl⟩ : ∃ wo : World, wo = wr := ⟨_, rfl⟩
      go_loopw [6] (fun i w4 => ∃ j : Nat, j ≤ m ∧ i = .int .i64 j ∧ Copied wo w4 N wo.heap.size s j) (fun i _ => m - (intOf i).toNat)
      case atStart => exact ⟨0, by omega, rfl, HC0.out⟩
      case round =>
        clear HC0
        obtain ⟨j, hj, rfl, v, hbx, hxc, hbr⟩ := hrel
        have HBX := Lib.hid hbx
        have HXC := Lib.hid hxc
        have HBR := Lib.hid hbr
        have c1 : wr.cell? ⟨g, k * 2 + 1, none⟩ = some (.slice Au m cu) := (hbr.cell (p := ⟨g, k * 2 + 1, none⟩) hgs).trans HC1.out
        clear hbx hxc hbr
        by_cases hjm : j < m
        · have hjI : (j : Int) < (m : Int) := by omega
          obtain ⟨g', cp', s', u', m', i', e, hlg', hgs', ⟨cs', hcs'⟩, d0, hss', d1, hu', d2⟩ := (HU.out.keepT (KeepT.below _ _ HBR.out) (Nat.le_refl _) : XCts wr lo N (.slice Au m cu) m).at_ hjm
          injection e with e1 e2 e3
          subst e1 e3
          obtain ⟨A', c', rfl⟩ := hu'.form
          have HU' := Lib.hid hu'
          clear hu' hcs'
          obtain ⟨Av, cv, rfl⟩ := HXC.out.form
          have hbz := HBX.out.lt
          have hm' : m' ≤ 1000 := by have := HU'.out.choose_spec.2.1; omega
          have hjl : j ≤ 1000 := by omega
          have hzr := HBR.out.size
          have HE : Hid (((wr.alloc (.cells #[.string s', .slice A' m' c', .int .i64 i'] 148)).alloc (.cells #[] 25)).ownsRow wo.heap.size 25 2 (.slice (some ⟨wr.heap.size + 1, 0, none⟩) 0 0) 0 []) := by
            have := World.ownsRow_lit (base := wo.heap.size) (e := 25) (size := 2) (wr.alloc (.cells #[.string s', .slice A' m' c', .int .i64 i'] 148)) #[] 0 (by simp; omega) (by simp) rfl
            unfold Hid
            simpa using this
          have HW : Hid (Below wr.heap.size wr ((wr.alloc (.cells #[.string s', .slice A' m' c', .int .i64 i'] 148)).alloc (.cells #[] 25))) := ((Below.refl _ _).alloc (Nat.le_refl _) _).alloc (by simp) _
          have HB3 : Hid (Box3 ((wr.alloc (.cells #[.string s', .slice A' m' c', .int .i64 i'] 148)).alloc (.cells #[] 25)) wr.heap.size s' (.slice A' m' c') i') := (Below.heap_alloc _ _ _ (by simp)).trans (heap_alloc_new wr _)
          have HUa : Hid (XTys ((wr.alloc (.cells #[.string s', .slice A' m' c', .int .i64 i'] 148)).alloc (.cells #[] 25)) lo N (.slice A' m' c') m') := HU'.out.keepT ((KeepT.alloc _ _ _ _).trans (KeepT.alloc _ _ _ _)) (Nat.le_refl _)
          have HBa : Hid (Box2 ((wr.alloc (.cells #[.string s', .slice A' m' c', .int .i64 i'] 148)).alloc (.cells #[] 25)) wo.heap.size s (.slice Av j cv)) := HBX.out.at_ (HW.out.mono (Nat.le_refl _))
          have HWa : Hid (Below wo.heap.size wo ((wr.alloc (.cells #[.string s', .slice A' m' c', .int .i64 i'] 148)).alloc (.cells #[] 25))) := below_after HBR.out HW.out hzr
          have HZa : Hid (((wr.alloc (.cells #[.string s', .slice A' m' c', .int .i64 i'] 148)).alloc (.cells #[] 25)).heap.size = wr.heap.size + 2) := by unfold Hid; simp
          go_wp2_with (at_builtin; generalize ((wr.alloc (.cells #[.string s', .slice A' m' c', .int .i64 i'] 148)).alloc (.cells #[] 25)) = wa at HE HB3 HUa HBa HWa HZa HW ⊢; refine wpList_append_tys rfl _ _ rfl wo.heap.size lo N (.slice (some ⟨wr.heap.size + 1, 0, none⟩) 0 0) rfl HE.out A' m' c' rfl HUa.out hm' (by have := HZa.out; omega) ?_)
          intro A3 c3 w6 hX6 hg6
          have hza := HZa.out
          have hz6 := hg6.size
          have HB6 : Hid (Box3 w6 wr.heap.size s' (.slice A' m' c') i') := HB3.out.keep (hg6.block _ (by omega) (by simp [Value.ownBlock]))
          have hbx6 : Box2 w6 wo.heap.size s (.slice Av j cv) := HBa.out.keep (hg6.block _ (by omega) (by simp [Value.ownBlock]; omega))
          have hxc6 : XCts w6 wo.heap.size N (.slice Av j cv) j := HXC.out.keepT (KeepT.below _ _ (HW.out.grown hg6 (by omega) (fun k e => by simp [Value.ownBlock] at e; omega))) (Nat.le_refl _)
          have HB7 : Hid (Box3 (w6.setCell ⟨wr.heap.size, 1, none⟩ (.slice A3 m' c3)) wr.heap.size s' (.slice A3 m' c3) i') := HB6.out.set1 _
          have HX7 : Hid (XTys (w6.setCell ⟨wr.heap.size, 1, none⟩ (.slice A3 m' c3)) wo.heap.size N (.slice A3 m' c3) m') := hX6.keepT (KeepT.set HB6.out T33_not31 _ _) (Nat.le_refl _)
          have HXC7 : Hid (XCts (w6.setCell ⟨wr.heap.size, 1, none⟩ (.slice A3 m' c3)) wo.heap.size N (.slice Av j cv) j) := hxc6.set HB6.out (.inr (.inl ⟨rfl, m', hX6⟩))
          have HBX7 : Hid (Box2 (w6.setCell ⟨wr.heap.size, 1, none⟩ (.slice A3 m' c3)) wo.heap.size s (.slice Av j cv)) := hbx6.keep (Below.heap_setCell _ _ _ _ (by simp only; omega))
          have HW7 : Hid (Below wo.heap.size wo (w6.setCell ⟨wr.heap.size, 1, none⟩ (.slice A3 m' c3))) := (HWa.out.grown hg6 (by omega) (fun k e => by simp [Value.ownBlock] at e; omega)).setCell (by simp only; omega) _
          have hsz7 : (w6.setCell ⟨wr.heap.size, 1, none⟩ (.slice A3 m' c3)).heap.size = w6.heap.size := by simp [World.setCell]
          have b1 := HB6.out.c1
          have bf := HB6.out.fz
          obtain ⟨xs, ho, hxn, hxk⟩ := HXC7.out
          have HOX := Lib.hid ho
          have HXK := Lib.hid hxk
          clear hX6 hg6 HB3 HB6 hbx6 hxc6 HE HUa HBa HWa HZa HXC HBX HU' d0 d1 d2 ho hxk HXC7 HW
          have x1 := HBX7.out.c1
          have xf := HBX7.out.fz
          have y0 := HB7.out.c0
          have y1 := HB7.out.c1
          have y2 := HB7.out.c2
          have hL1 : j + 1 ≤ maxLen := by unfold maxLen; omega
          have hwz := HW7.out.size
          have HN : Hid ((j + 1) * 48 ≤ 140737488355328) := by unfold Hid; omega
          have hXN : j + 1 ≤ N := by have := HU.out.choose_spec.2.1; omega
          have HNW : Hid (∀ (q : Nat) (u : Value), [Value.string s', .slice A3 m' c3, .int .i64 i'][q]? = some u → ((w6.setCell ⟨wr.heap.size, 1, none⟩ (.slice A3 m' c3)).alloc (.cells #[.string s', .slice A3 m' c3, .int .i64 i'] 148)).cell? ((⟨w6.heap.size, 0, none⟩ : Addr).add q) = some u) := by
            rw [← hsz7]; exact cell_three_new _ _ _ _ _
          go_wp2_with (at_builtin; generalize (w6.setCell ⟨wr.heap.size, 1, none⟩ (.slice A3 m' c3)) = w7 at HNW HB7 HX7 HOX HXK HBX7 HW7 hsz7 x1 xf y0 y1 y2 hwz ⊢; refine wpList_append_lies _ rfl _ _ 142 rfl wo.heap.size 148 i31 _ 3 48 Try.underlying142 hi31 hx0 hx1 hx2 rfl (by decide) (.slice Av j cv) j xs rfl (HOX.out.alloc _) ⟨w6.heap.size, 0, none⟩ 1 1 [.string s', .slice A3 m' c3, .int .i64 i'] rfl rfl HNW.out (by simp [Value.oneCell']) (by omega) hL1 HN.out (by simp; omega) w7.heap.size.succ (by simp) ?_)
          intro gg c9 w9 hown9 hg9 hat9 hlt9
          have HB9 : Hid (Box2 w9 wo.heap.size s (.slice Av j cv)) := HBX7.out.keep ((hg9.block _ (by simp; omega) (own_ne HOX.out HBX7.out (by decide))).trans (Below.heap_alloc _ _ _ (by omega)))
          have hk9 : KeepT wo.heap.size T33 w7 w9 := (KeepT.alloc _ _ _ _).trans (KeepT.grown (HOX.out.alloc _) T33_not31 hg9)
          have hx9 : XCts w9 wo.heap.size N (.slice (some ⟨gg, 0, none⟩) (j + 1) c9) (j + 1) := XCts.app (fun q hq => (HXK.out q hq).keepT hk9 (Nat.le_refl _)) HOX.out.1 hss' (HX7.out.keepT hk9 (Nat.le_refl _)) hown9 hXN
          have HF9 : Hid (Copied wo (w9.setCell ⟨wo.heap.size, 1, none⟩ (.slice (some ⟨gg, 0, none⟩) (j + 1) c9)) N wo.heap.size s (j + 1)) :=
            ⟨_, HB9.out.set1 _, hx9.keepT (KeepT.set HB9.out T31_not28 _ _) (Nat.le_refl _), ((HW7.out.alloc hwz _).grown hg9 (by simp; omega) (fun k e => (HOX.out.lt k e).1)).setCell (Nat.le_refl _) _⟩
          have z1 := HB9.out.c1
          have zf := HB9.out.fz
          clear hown9 hg9 hat9 hlt9 hk9 hx9 HNW HB7 HX7 HOX HXK HBX7 HW7 hsz7 x1 xf y0 y1 y2 hwz b1 bf HB9
          go_wp2_with fail
          go_roundw
          case rel => exact ⟨j + 1, by omega, by go_num, HF9.out⟩
          case measure => simp [intOf]; omega
        · have hje : j = m := by omega
          have hjI : (m : Int) ≤ (j : Int) := by omega
          obtain ⟨Av, cv, rfl⟩ := HXC.out.form
          have hxd : XDas wr w.heap.size N u3 k := HO.out.keepT (KeepT.below _ _ (HBR.out.mono (Nat.le_refl _))) (Nat.le_refl _)
          obtain ⟨xs, ho, hxn, hxk⟩ := hxd
          have HOX := Lib.hid ho
          have HXK := Lib.hid hxk
          have hL1 : k + 1 ≤ maxLen := by unfold maxLen; omega
          have HN : Hid ((k + 1) * 40 ≤ 140737488355328) := by unfold Hid; omega
          have hkN : k + 1 ≤ N := by have := HX.out.choose_spec.2.1; omega
          have x0 := HBX.out.c0
          have x1 := HBX.out.c1
          have hzr := HBR.out.size
          have hbz := HBX.out.lt
          clear hje hxk ho
          go_wp2_with (at_builtin; refine wpList_append_lies _ rfl _ _ 23 rfl w.heap.size 144 i28 _ 2 40 Try.underlying23 hi28 hw0 hw1 hw2 rfl (by decide) u3 k xs rfl (HOX.out.alloc _) ⟨wr.heap.size, 0, none⟩ 1 1 [.string s, .slice Av j cv] rfl rfl (cell_two_new _ _ _ _) (by simp [Value.oneCell']) (by omega) hL1 HN.out (by simp; omega) wr.heap.size.succ (by simp) ?_)
          intro gg c9 w9 hown9 hg9 hat9 hlt9
          have hk9 : KeepT w.heap.size T31 wr w9 := (KeepT.alloc _ _ _ _).trans (KeepT.grown (HOX.out.alloc _) T31_not28 hg9)
          have HX9 : Hid (XDas w9 w.heap.size N (.slice (some ⟨gg, 0, none⟩) (k + 1) c9) (k + 1)) := XDas.app (fun q hq => (HXK.out q hq).keepT hk9 (Nat.le_refl _)) HOX.out.1 hss ((HXC.out.lower hzw).keepT hk9 (Nat.le_refl _)) hown9 hkN
          have HB9 : Hid (Below w.heap.size w w9) := (((HBW.out.trans (HBR.out.mono hzw))).alloc (by omega) _).grown hg9 (by simp; omega) (fun q e => (HOX.out.lt q e).1)
          clear hown9 hg9 hat9 hlt9 hk9 HOX HXK x0 x1 HBX HXC
          go_wp2_with fail
          go_roundw
          case rel => exact ⟨k + 1, by omega, by go_num, HX9.out, HB9.out⟩
          case measure => simp [intOf]; omega
    · have hke : k = n := by omega
      have hkI : (n : Int) ≤ (k : Int) := by omega
      have HF : Hid (XDas wr w.heap.size N u3 n) := by unfold Hid; rw [← hke]; exact HO.out
      clear hke HO
      go_wp2_with fail
      go_ret
      exact ⟨_, rfl, HF.out, HBW.out⟩
end Go.Proofs.Yteoopmogklpnoaa
