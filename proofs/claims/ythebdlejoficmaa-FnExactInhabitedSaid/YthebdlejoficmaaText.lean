/-
  The text of a mark. No statement is proved here.
-/
import Derived.Test.YthebdlejoficmaaMem
import Derived.Laws.BytesString
namespace Go.Proofs.Ythebdlejoficmaa
open Go.RowKit
set_option maxRecDepth 100000
set_option linter.unusedVariables false

/-- A string of one byte. -/
def one (x : Int) : ByteArray := ByteArray.empty.push (UInt8.ofNat x.toNat)
theorem one_size (x : Int) : (one x).size = 1 := rfl
theorem conv_one (w : World) (x : Int) : (Go.convert 84 9 (.slice (some ⟨w.heap.size, 0, none⟩) 1 1)).run Try.prog (w.alloc (.cells #[.int .u8 x] 5)) = .ok (.string (one x)) (w.alloc (.cells #[.int .u8 x] 5)) := by
  rw [run_convert_bytes_string _ 84 9 5 _ 1 1 Try.underlying84 Try.underlying5 Try.underlying9]
  exact run_bytesToString _ ⟨w.heap.size, 0, none⟩ 1 1 [x] (by simp [loadCells, go_sem])
theorem quo_le {m : Int} (h : 0 < m) : 0 ≤ m / 10 ∧ m / 10 + 1 ≤ m := by omega

set_option maxHeartbeats 800000 in
theorem markText_any (k : Int) (w : World) (h0 : 0 < k) (h1 : k ≤ 8388608) :
    Calls Try.prog 56 #[.int .i64 k] w fun e w' => ∃ s : ByteArray, e = .returned (.string s) ∧ s.size ≤ 8388609 ∧ Below w.heap.size w w' := by
  go_enter Try.func56, Try.ntmps56
  go_wp2_with fail
  go_loopw [0, 3] (fun q t wr => ∃ m : Int, 0 ≤ m ∧ m ≤ k ∧ q = .int .i64 m ∧ ∃ s : ByteArray, t = .string s ∧ (s.size : Int) + m ≤ k ∧ Below w.heap.size w wr) (fun q _ _ => (intOf q).toNat)
  case atStart => exact ⟨k, by omega, by omega, rfl, ByteArray.empty, rfl, by simp, Below.refl _ _⟩
  case round =>
    obtain ⟨m, hm0, hm1, rfl, s, rfl, hs, hb⟩ := hrel
    have hlw := hb.size
    by_cases hlt : 0 < m
    · have hq := quo_le hlt
      have hq0 := hq.1
      have hq1 := hq.2
      clear hq
      have hcv := conv_one wr
      have hos := one_size
      go_wp2_with fail
      go_roundw
      case rel => exact ⟨m / 10, by omega, by omega, rfl, _, rfl, by rw [ByteArray.size_append, one_size]; push_cast; omega, hb.alloc hlw _⟩
      case measure => simp [intOf]; omega
    · go_wp2_with fail
      go_ret
      exact ⟨_, rfl, by rw [ByteArray.size_append]; have : (ByteArray.mk #[109]).size = 1 := rfl; omega, hb⟩
end Go.Proofs.Ythebdlejoficmaa
