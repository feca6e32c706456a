/-
  The types of a world in a row; the types that have a value with arguments of known types, and the others, in two rows. No statement is proved here.
-/
import Derived.Test.YthebdlejoficmaaHasB
import Derived.Maps.AppendAt
namespace Go.Proofs.Ythebdlejoficmaa
open Go.RowKit
set_option maxRecDepth 100000
set_option linter.unusedVariables false

theorem types_at {n k i : Nat} (hi : i < 4) (h : k * 4 + 1 + i < (tysN n).length) : (tysN n)[k * 4 + 1 + i] = ⟨k, i⟩ := by
  have e : (tysN n)[k * 4 + 1 + i]? = some (tyAt (k * 4 + i)) := by
    rw [show k * 4 + 1 + i = (k * 4 + i) + 1 by omega]
    unfold tysN
    rw [List.getElem?_cons_succ, List.getElem?_map]
    rw [tysN_len] at h
    rw [List.getElem?_range (by omega)]
    rfl
  rw [List.getElem?_eq_getElem h] at e
  injection e with e
  rw [e]
  unfold tyAt
  congr 1 <;> omega

theorem OTys.snoc {w w1 : World} {lo : Nat} {v v' : Value} {l : List Ty} {k : Nat} {xs : List Value} {d i : Int} (hx : TyRow l xs k) (hk : k < l.length) (hxl : xs.length = k * 2) (ho : w1.ownsRow lo 34 2 v' (k + 1) (xs ++ [.int .i64 d, .int .i64 i])) (e : l[k] = ⟨d, i⟩) : OTys w1 lo v' l (k + 1) := by
  have := hx.snoc hk hxl
  rw [e] at this
  exact ⟨_, ho, this⟩

set_option maxHeartbeats 800000 in
theorem typesOf_any (A : Option Addr) (n cap : Nat) (w : World) (hn : n ≤ 4) :
    Calls Try.prog 80 #[.slice A n cap] w fun e w' => ∃ v, e = .returned v ∧ OTys w' w.heap.size v (tysN n) (tysN n).length ∧ Below w.heap.size w w' := by
  obtain ⟨i0, hi, hz0, hz1, hz2⟩ := info_parts info34
  have hL := tysN_len n
  have HL := Lib.hid hL
  have HE : Hid (∀ (k i : Nat) (hi : i < 4) (h : k * 4 + 1 + i < (tysN n).length), (tysN n)[k * 4 + 1 + i] = ⟨k, i⟩) := fun k i hi h => types_at hi h
  clear hL
  have HO0 : Hid (OTys (w.alloc (.cells #[.int .i64 (-1), .int .i64 0] 34)) w.heap.size (.slice (some ⟨w.heap.size, 0, none⟩) 1 1) (tysN n) 1) := by
    refine ⟨[.int .i64 (-1), .int .i64 0], ?_, ?_⟩
    · have := World.ownsRow_lit (base := w.heap.size) (e := 34) (size := 2) w #[.int .i64 (-1), .int .i64 0] 1 (Nat.le_refl _) (by unfold maxLen; omega) rfl
      simpa using this
    · intro j hj hj1
      have : j = 0 := by omega
      subst this
      exact ⟨rfl, rfl⟩
  have HB0 : Hid (∀ o : Obj, Below w.heap.size w (w.alloc o)) := fun o => (Below.refl _ _).alloc (Nat.le_refl _) _
  go_enter Try.func80, Try.ntmps80
  go_wp2_with fail
  go_loopw [3, 10] (fun v i wr => ∃ k : Nat, k ≤ n ∧ i = .int .i64 k ∧ OTys wr w.heap.size v (tysN n) (k * 4 + 1) ∧ Below w.heap.size w wr) (fun _ i _ => n - (intOf i).toNat)
  case atStart => exact ⟨0, by omega, rfl, HO0.out, HB0.out _⟩
  case round =>
    clear HO0 HB0
    obtain ⟨k, hk, rfl, ho, hb⟩ := hrel
    by_cases hlt : k < n
    · have HO := Lib.hid ho
      clear ho
      go_wp2_with fail
      go_loopw [3, 5] (fun v i wr => ∃ j : Nat, j ≤ 4 ∧ i = .int .i64 j ∧ OTys wr w.heap.size v (tysN n) (k * 4 + 1 + j) ∧ Below w.heap.size w wr) (fun _ i _ => 4 - (intOf i).toNat)
      case atStart => exact ⟨0, by omega, rfl, HO.out, hb⟩
      case round =>
        clear HO hb
        obtain ⟨j, hj, rfl, ⟨xs, ho, hx⟩, hb⟩ := hrel
        have hsz := hb.size
        by_cases hjt : j < 4
        · have hjI : (j : Int) ≤ 3 := by omega
          have hkl : k * 4 + 1 + j < n * 4 + 1 := by omega
          have HO := Lib.hid ho
          have HX := Lib.hid hx
          clear ho hx
          go_wp2_with (at_builtin; refine wpList_append_own _ rfl _ _ 42 rfl w.heap.size 34 i0 (.agg #[.int .i64 0, .int .i64 0]) 2 16 Try.underlying42 hi hz0 hz1 hz2 rfl (by decide) _ _ _ rfl (HO.out.alloc _) ⟨wr.heap.size, 0, none⟩ 1 1 [.int .i64 k, .int .i64 j] rfl rfl ?c1 ?c2 ?c3 ?c4 ?c5 ?_)
          case c1 => exact cell_two_new _ _ _ _
          case c2 => intro u hu; simp at hu; rcases hu with rfl | rfl <;> rfl
          case c3 => unfold maxLen; omega
          case c4 => omega
          case c5 => simp; omega
          intro v' w1 hown' hgrow hnn
          have hb3 : Below w.heap.size w w1 := (hb.alloc (by omega) _).grown hgrow (by simp; omega) (fun g' e => (HO.out.lt g' e).1)
          have HO3 : Hid (OTys w1 w.heap.size v' (tysN n) (k * 4 + 1 + (j + 1))) := OTys.snoc (w := w) (v := v') HX.out (by rw [HL.out]; exact hkl) HO.out.1 hown' (HE.out k j hjt _)
          clear hown' hgrow hnn HO HX
          go_wp2_with fail
          go_roundw
          case rel => exact ⟨j + 1, by omega, by go_num, HO3.out, hb3⟩
          case measure => simp [intOf]; omega
        · have hjI : 3 < (j : Int) := by omega
          have hje : j = 4 := by omega
          have HO : Hid (OTys wr w.heap.size u3 (tysN n) ((k + 1) * 4 + 1)) := by
            have : (k + 1) * 4 + 1 = k * 4 + 1 + j := by omega
            unfold Hid; rw [this]; exact ⟨xs, ho, hx⟩
          clear ho hx hje
          go_wp2_with fail
          go_roundw
          case rel => exact ⟨k + 1, by omega, by go_num, HO.out, hb⟩
          case measure => simp [intOf]; omega
    · have he : (tysN n).length = k * 4 + 1 := by rw [HL.out]; omega
      have HO : Hid (OTys wr w.heap.size u3 (tysN n) (tysN n).length) := by unfold Hid; rw [he]; exact ho
      clear he ho
      go_wp2_with fail
      go_ret
      exact ⟨_, rfl, HO.out, hb⟩
end Go.Proofs.Ythebdlejoficmaa
