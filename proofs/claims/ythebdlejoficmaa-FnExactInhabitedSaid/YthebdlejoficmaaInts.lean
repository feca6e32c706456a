/-
  Lists of integers compared, marked and looked at again. No statement is proved here.
-/
import Derived.Test.YthebdlejoficmaaCtors2
import Derived.Test.YthebdlejoficmaaSz
import Derived.BigQuiet
namespace Go.Proofs.Ythebdlejoficmaa
open Go.RowKit Go.Sort
set_option maxRecDepth 100000
set_option linter.unusedVariables false

/-- Integers that a slice holds. -/
def RInts (w : World) (A : Option Addr) (l : List Int) : Prop := l.length ≤ maxLen ∧ ∀ k (h : k < l.length), ∃ b off, A = some ⟨b, off, none⟩ ∧ b < w.heap.size ∧ w.cell? ⟨b, off + k, none⟩ = some (.int .i64 l[k])
theorem RInts.at_ {w w' : World} {A : Option Addr} {l : List Int} (h : RInts w A l) (hb : Below w.heap.size w w') : RInts w' A l :=
  ⟨h.1, fun k hk => by
    obtain ⟨b, off, e, hbl, h1⟩ := h.2 k hk
    exact ⟨b, off, e, Nat.lt_of_lt_of_le hbl hb.size, (hb.cell (p := ⟨b, off + k, none⟩) hbl).trans h1⟩⟩
/-- A row of integers of the call's own, as a slice. -/
theorem OInts.form {w : World} {lo : Nat} {v : Value} {xs : List Int} (h : OInts w lo v xs) (hx : xs.length ≤ maxLen) : ∃ A cap, v = .slice A xs.length cap ∧ RInts w A xs := by
  have h' : w.ownsRow lo 3 1 v xs.length (xs.map (Value.int .i64)) := h
  rcases h'.2 with ⟨rfl, h0⟩ | ⟨g, cap, cur, rfl, hb, hg, hnc, hcm, hcs, htake⟩
  · exact ⟨none, 0, by rw [h0], hx, fun k hk => absurd hk (by omega)⟩
  · refine ⟨_, cap, rfl, hx, fun k hk => ⟨g, 0, rfl, ?_, ?_⟩⟩
    · exact (h'.lt g rfl).2
    · rw [Nat.zero_add, h'.cellAt k (by omega), List.getElem?_map, List.getElem?_eq_getElem hk]; rfl

set_option maxHeartbeats 800000 in
theorem eqInts_same (A A' : Option Addr) (l : List Int) (cap cap' : Nat) (w : World) (hr : RInts w A l) (hr' : RInts w A' l) :
    Calls Try.prog 25 #[.slice A l.length cap, .slice A' l.length cap'] w fun e w' => e = .returned (.bool true) ∧ Below w.heap.size w w' := by
  have hn := hr.1
  unfold maxLen at hn
  have Hr := Lib.hid hr
  have Hr' := Lib.hid hr'
  clear hr hr'
  go_enter Try.func25, Try.ntmps25
  go_wp2_with fail
  go_loopw [5] (fun i wr => ∃ k : Nat, k ≤ l.length ∧ i = .int .i64 k ∧ Below w.heap.size w wr) (fun i _ => l.length - (intOf i).toNat)
  case atStart => exact ⟨0, by omega, rfl, Below.refl _ _⟩
  case round =>
    obtain ⟨k, hk, rfl, hb⟩ := hrel
    by_cases hlt : k < l.length
    · obtain ⟨b, off, rfl, hbB, c0⟩ := (Hr.out.at_ hb).2 k hlt
      obtain ⟨b', off', rfl, hbB', c0'⟩ := (Hr'.out.at_ hb).2 k hlt
      have hi : (k : Int) < (l.length : Int) := by omega
      have HB2 : Hid (∀ n, Below w.heap.size w (wr.drewN n)) := fun n => ⟨hb.os, hb.tape, hb.output, hb.size, hb.block⟩
      go_wp2_with fail
      go_quiet (fail)
      go_wp2_with fail
      go_roundw
      case rel => exact ⟨k + 1, by omega, by go_num, HB2.out _⟩
      case measure => simp [intOf]; omega
    · go_wp2_with fail
      go_ret
      exact ⟨rfl, hb⟩

/-- The marks from a number on. -/
def mk (k : Int) : Nat → List Int
  | 0 => []
  | n + 1 => mk k n ++ [k + n]
theorem mk_length (k : Int) : ∀ n, (mk k n).length = n
  | 0 => rfl
  | n + 1 => by show (mk k n ++ _).length = _; rw [List.length_append, mk_length k n]; rfl
theorem mk_get (k : Int) : ∀ n j, j < n → (mk k n)[j]? = some (k + j)
  | n + 1, j, h => by
    show (mk k n ++ [k + (n : Int)])[j]? = _
    by_cases e : j = n
    · subst e; rw [List.getElem?_append_right (by rw [mk_length]; exact Nat.le_refl _), mk_length]; simp
    · rw [List.getElem?_append_left (by rw [mk_length]; omega)]; exact mk_get k n j (by omega)

/-- A row whose first cells are marked. -/
def Marked (w : World) (lo : Nat) (v : Value) (n : Nat) (k : Int) (j : Nat) : Prop := ∃ xs, w.ownsRow lo 3 1 v n xs ∧ ∀ i, i < j → xs[i]? = some (.int .i64 (k + i))

set_option maxHeartbeats 800000 in
theorem markInts_some (g n cap lo : Nat) (k : Int) (xs : List Value) (w : World) (hn : n ≤ 1048576) (h0 : 0 ≤ k) (h1 : k ≤ 1048576) (hr : w.ownsRow lo 3 1 (.slice (some ⟨g, 0, none⟩) n cap) n xs) (hlo : lo ≤ w.heap.size) :
    Calls Try.prog 27 #[.slice (some ⟨g, 0, none⟩) n cap, .int .i64 k] w fun e w' => e = .returned (.int .i64 (k + n)) ∧ Marked w' lo (.slice (some ⟨g, 0, none⟩) n cap) n k n ∧ w.grownBy w' (some g) := by
  have Hr := Lib.hid hr
  clear hr
  go_enter Try.func27, Try.ntmps27
  go_wp2_with fail
  go_loopw [1, 5] (fun q i wr => ∃ j : Nat, j ≤ n ∧ i = .int .i64 j ∧ q = .int .i64 (k + j) ∧ Marked wr lo (.slice (some ⟨g, 0, none⟩) n cap) n k j ∧ w.grownBy wr (some g)) (fun _ i _ => n - (intOf i).toNat)
  case atStart => exact ⟨0, by omega, rfl, by simp, ⟨xs, Hr.out, fun i h => absurd h (by omega)⟩, World.grownBy.refl _ _⟩
  case round =>
    obtain ⟨j, hj, rfl, rfl, hm, hg⟩ := hrel
    by_cases hlt : j < n
    · obtain ⟨ys, ho, hy⟩ := hm
      have HY := Lib.hid hy
      have HO := Lib.hid ho
      obtain ⟨v0, f0⟩ := own_cell ho j (by omega)
      have g0 := ho.frozenAt j
      clear hy ho
      go_wp2_with fail
      have hs := (HO.out.stored j (.int .i64 (k + j))).1
      have hg2 : w.grownBy (wr.setCell ⟨g, j, none⟩ (.int .i64 (k + j))) (some g) := by
        have hg1 := (HO.out.stored j (.int .i64 (k + j))).2
        exact ⟨hg1.os.trans hg.os, hg1.tape.trans hg.tape, hg1.output.trans hg.output, Nat.le_trans hg.size hg1.size, fun b hb hne => (hg1.block b (Nat.lt_of_lt_of_le hb hg.size) hne).trans (hg.block b hb hne)⟩
      have hl := HO.out.1
      go_roundw
      case rel => exact ⟨j + 1, by omega, by go_num, by go_num, ⟨_, hs, fun i hi => by
        by_cases e : i = j
        · subst e; rw [List.getElem?_set_self (by omega)]
        · rw [List.getElem?_set_ne (by omega)]; exact HY.out i (by omega)⟩, hg2⟩
      case measure => simp [intOf]; omega
    · have he : j = n := by omega
      have HM : Hid (Marked wr lo (.slice (some ⟨g, 0, none⟩) n cap) n k n) := by rw [← he] at hm ⊢; exact hm
      have HE := Lib.hid he
      clear he hm
      go_wp2_with fail
      go_ret
      exact ⟨ret_i64 (by rw [HE.out]), HM.out, hg⟩
end Go.Proofs.Ythebdlejoficmaa
