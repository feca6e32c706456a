/-
  A source of numbers: the document's reader of bytes. No statement is proved here.
-/
import Derived.Test.YtakhobhmplneeaaY18
import Derived.Test.YtakhobhmplneeaaY17
import Derived.Test.YtakhobhmplneeaaY19
import Derived.Test.YtakhobhmplneeaaY01
import Derived.Deep.QuietTactic
import Derived.BigQuiet
import Derived.Outline
import Derived.Deep.RegionLawGrows
import Derived.Deep.RegionLaw
import Derived.Laws.AppendOwnNone
namespace Go.Proofs.Ytakhobhmplneeaa
open Go.RowKit Go.Deep
set_option maxRecDepth 100000
set_option linter.unusedVariables false
/-- Bytes that read below block B. -/
def RBy (w : World) (B : Nat) (A : Option Addr) (m : Nat) : Prop := ∀ k, k < m → ∃ b off x, A = some ⟨b, off, none⟩ ∧ b < B ∧ w.cell? ⟨b, off + k, none⟩ = some (.int .u8 x) ∧ 0 ≤ x ∧ x ≤ 255
/-- The source in block rb, of which at most N numbers were drawn. -/
def RRd (w : World) (B rb N : Nat) : Prop := ∃ A m cap, ∃ p : Nat, w.heap[rb]? = some (.cells #[.slice A m cap, .int .i64 p] 55 (0, 0)) ∧ p ≤ N ∧ m ≤ 2000 ∧ B ≤ rb ∧ RBy w B A m
theorem RBy.below {w w' : World} {B : Nat} {A : Option Addr} {m : Nat} (h : RBy w B A m) (hb : Below B w w') : RBy w' B A m := fun k hk => by
  obtain ⟨b, off, x, e, hB, hc, hx⟩ := h k hk
  exact ⟨b, off, x, e, hB, (hb.cell (p := ⟨b, off + k, none⟩) hB).trans hc, hx⟩
theorem RRd.more {w : World} {B rb N N' : Nat} (h : RRd w B rb N) (hN : N ≤ N') : RRd w B rb N' := by
  obtain ⟨A, m, cap, p, h1, h2, h3, h4, h5⟩ := h
  exact ⟨A, m, cap, p, h1, by omega, h3, h4, h5⟩
theorem RRd.below {w w' : World} {B rb N : Nat} (h : RRd w B rb N) (hb : Below w.heap.size w w') : RRd w' B rb N := by
  obtain ⟨A, m, cap, p, h1, h2, h3, h4, h5⟩ := h
  exact ⟨A, m, cap, p, (hb.block rb (heap_lt h1)).trans h1, h2, h3, h4, h5.below (hb.mono (by have := heap_lt h1; omega))⟩
theorem RRd.lt {w : World} {B rb N : Nat} (h : RRd w B rb N) : rb < w.heap.size := by
  obtain ⟨A, m, cap, p, h1, _⟩ := h
  exact heap_lt h1
theorem RRd.ge {w : World} {B rb N : Nat} (h : RRd w B rb N) : B ≤ rb := by
  obtain ⟨A, m, cap, p, _, _, _, h4, _⟩ := h
  exact h4
/-- A number below n was drawn. -/
def Picked (w : World) (B rb N : Nat) (n : Int) (e : Ending) (w' : World) : Prop := ∃ k : Nat, e = .returned (.int .i64 k) ∧ (k = 0 ∨ (k : Int) < n) ∧ RRd w' B rb (N + 1) ∧ w.grownBy w' (some rb)
theorem picked_of {w : World} {B rb N p : Nat} {n k : Int} {A : Option Addr} {m cap : Nat} (h1 : w.heap[rb]? = some (.cells #[.slice A m cap, .int .i64 p] 55 (0, 0))) (hp : p ≤ N) (hm : m ≤ 2000) (hB : B ≤ rb) (hr : RBy w B A m) (hk : 0 ≤ k) (hn : k = 0 ∨ k < n) :
    Picked w B rb N n (.returned (.int .i64 k)) (w.setCell ⟨rb, 1, none⟩ (.int .i64 ((p : Int) + 1))) := by
  obtain ⟨k, rfl⟩ : ∃ q : Nat, k = q := ⟨k.toNat, by omega⟩
  refine ⟨k, rfl, by omega, ⟨A, m, cap, p + 1, ?_, by omega, hm, hB, ?_⟩, ?_⟩
  · rw [heap_setCell_same w rb 1 _ _ _ h1]; simp
  · exact hr.below (((Below.refl _ _).setCell (p := ⟨rb, 1, none⟩) hB _))
  · refine ⟨rfl, rfl, rfl, by simp [World.setCell], fun b hb hne => Below.heap_setCell _ _ _ _ (fun e => hne (by rw [e]))⟩
theorem Picked.drewN {w w' : World} {B rb N : Nat} {n : Int} {e : Ending} (h : Picked w B rb N n e w') (k : Nat) : Picked w B rb N n e (w'.drewN k) := by
  obtain ⟨q, h1, h2, ⟨A, m, cap, p, h3, h4, h5, h6, h7⟩, h8⟩ := h
  exact ⟨q, h1, h2, ⟨A, m, cap, p, h3, h4, h5, h6, h7⟩, h8.os, h8.tape, h8.output, h8.size, h8.block⟩
set_option maxHeartbeats 1600000 in
theorem pick_low (rb B N : Nat) (n : Int) (A : Option Addr) (m cap p : Nat) (w : World) (h1 : w.heap[rb]? = some (.cells #[.slice A m cap, .int .i64 p] 55 (0, 0))) (hp : p ≤ N) (hN : N ≤ 10000000) (hm : m ≤ 2000) (hB : B ≤ rb) (hr : RBy w B A m) (hn : n < 1) :
    Calls Try.prog 19 #[.pointer (some ⟨rb, 0, none⟩), .int .i64 n] w (Picked w B rb N n) := by
  have c0 : w.cell? ⟨rb, 0, none⟩ = some (.slice A m cap) := cell_of_blk h1 0
  have c1 : w.cell? ⟨rb, 1, none⟩ = some (.int .i64 p) := cell_of_blk h1 1
  have fz := free_of_blk h1
  have hpI : (p : Int) ≤ 10000000 := by omega
  have hp0 : (0 : Int) ≤ (p : Int) := by omega
  have HP := Lib.hid (picked_of (n := n) (k := 0) h1 hp hm hB hr (by omega) (.inl rfl))
  clear h1 hr
  go_enter Try.func19, Try.ntmps19
  go_wp2_with fail
  go_ret
  exact HP.out
set_option maxHeartbeats 1600000 in
theorem pick_none (rb B N : Nat) (n : Int) (A : Option Addr) (cap p : Nat) (w : World) (h1 : w.heap[rb]? = some (.cells #[.slice A 0 cap, .int .i64 p] 55 (0, 0))) (hp : p ≤ N) (hN : N ≤ 10000000) (hB : B ≤ rb) (hr : RBy w B A 0) (hn : 1 ≤ n) :
    Calls Try.prog 19 #[.pointer (some ⟨rb, 0, none⟩), .int .i64 n] w (Picked w B rb N n) := by
  have c0 : w.cell? ⟨rb, 0, none⟩ = some (.slice A 0 cap) := cell_of_blk h1 0
  have c1 : w.cell? ⟨rb, 1, none⟩ = some (.int .i64 p) := cell_of_blk h1 1
  have fz := free_of_blk h1
  have hpI : (p : Int) ≤ 10000000 := by omega
  have hp0 : (0 : Int) ≤ (p : Int) := by omega
  have HP := Lib.hid (picked_of (n := n) (k := 0) h1 hp (by omega) hB hr (by omega) (.inl rfl))
  clear h1 hr
  go_enter Try.func19, Try.ntmps19
  go_wp2_with fail
  go_ret
  exact HP.out
set_option maxHeartbeats 1600000 in
theorem pick_in (rb B N : Nat) (n : Int) (A : Option Addr) (m cap p : Nat) (w : World) (h1 : w.heap[rb]? = some (.cells #[.slice A m cap, .int .i64 p] 55 (0, 0))) (hp : p ≤ N) (hN : N ≤ 10000000) (hm : m ≤ 2000) (hB : B ≤ rb) (hr : RBy w B A m) (hn : 1 ≤ n) (hlt : p < m) :
    Calls Try.prog 19 #[.pointer (some ⟨rb, 0, none⟩), .int .i64 n] w (Picked w B rb N n) := by
  have c0 : w.cell? ⟨rb, 0, none⟩ = some (.slice A m cap) := cell_of_blk h1 0
  have c1 : w.cell? ⟨rb, 1, none⟩ = some (.int .i64 p) := cell_of_blk h1 1
  have fz := free_of_blk h1
  obtain ⟨b, off, x, rfl, hbB, cx, hx0, hx1⟩ := hr p hlt
  have hpI : (p : Int) ≤ 10000000 := by omega
  have hp0 : (0 : Int) ≤ (p : Int) := by omega
  have hltI : (p : Int) < (m : Int) := by omega
  have q : ((m : Int) == 0) = false := ieq_f (by omega)
  have q2 : (n == 0) = false := ieq_f (by omega)
  have hne : ¬ b = rb := by omega
  have HP := Lib.hid (picked_of (n := n) (k := x % n) h1 hp (by omega) hB hr (Int.emod_nonneg _ (by omega)) (.inr (Int.emod_lt_of_pos _ (by omega))))
  clear h1 hr
  go_enter Try.func19, Try.ntmps19
  go_wp2_with fail
  go_ret
  exact HP.out
theorem xor_any (X : Nat) (hX : X < 4294967296) : ∃ Z : Nat, bits .xor .i64 (X : Int) ((X : Int) / 64) = (Z : Int) := by
  refine ⟨X ^^^ X / 64, ?_⟩
  have d : ((X : Int) / 64) = ((X / 64 : Nat) : Int) := by omega
  rw [d]
  have hY : X / 64 < 4294967296 := by omega
  have hz : X ^^^ X / 64 < 2 ^ 32 := Nat.xor_lt_two_pow (by omega) (by omega)
  have h1 : (BitVec.ofInt 64 (X : Int)).toNat = X := by rw [BitVec.ofInt_natCast, BitVec.toNat_ofNat]; exact Nat.mod_eq_of_lt (by omega)
  have h2 : (BitVec.ofInt 64 ((X / 64 : Nat) : Int)).toNat = X / 64 := by rw [BitVec.ofInt_natCast, BitVec.toNat_ofNat]; exact Nat.mod_eq_of_lt (by omega)
  show IntKind.i64.wrap ((BitVec.ofInt 64 (X : Int) ^^^ BitVec.ofInt 64 ((X / 64 : Nat) : Int)).toNat : Int) = _
  rw [BitVec.toNat_xor, h1, h2]
  exact IntWalk.i64_in _ (by omega)
set_option maxHeartbeats 1600000 in
theorem pick_out (rb B N : Nat) (n : Int) (A : Option Addr) (m cap p : Nat) (w : World) (h1 : w.heap[rb]? = some (.cells #[.slice A m cap, .int .i64 p] 55 (0, 0))) (hp : p ≤ N) (hN : N ≤ 10000000) (hm : m ≤ 2000) (hB : B ≤ rb) (hr : RBy w B A m) (hn : 1 ≤ n) (hm0 : 1 ≤ m) (hlt : m ≤ p) :
    Calls Try.prog 19 #[.pointer (some ⟨rb, 0, none⟩), .int .i64 n] w (Picked w B rb N n) := by
  have c0 : w.cell? ⟨rb, 0, none⟩ = some (.slice A m cap) := cell_of_blk h1 0
  have c1 : w.cell? ⟨rb, 1, none⟩ = some (.int .i64 p) := cell_of_blk h1 1
  have fz := free_of_blk h1
  have hpI : (p : Int) ≤ 10000000 := by omega
  have hp0 : (0 : Int) ≤ (p : Int) := by omega
  have hm0I : (1 : Int) ≤ (m : Int) := by omega
  have hmI : (m : Int) ≤ 2000 := by omega
  have hltI : (m : Int) ≤ (p : Int) := by omega
  have hK1 := Nat.mod_lt p (show 0 < m by omega)
  have hK2 := Nat.mod_lt (p * 7 + 3) (show 0 < m by omega)
  have hQ := Nat.div_le_self p m
  have t1 : (p : Int).tmod m = ((p % m : Nat) : Int) := rfl
  have t2 : ((p : Int) * 7 + 3).tmod m = (((p * 7 + 3) % m : Nat) : Int) := by
    have : ((p : Int) * 7 + 3) = ((p * 7 + 3 : Nat) : Int) := by omega
    rw [this]; rfl
  have t3 : (p : Int) / (m : Int) = ((p / m : Nat) : Int) := rfl
  obtain ⟨b, off, x, rfl, hbB, cx, hx0, hx1⟩ := hr (p % m) hK1
  obtain ⟨b', off', y, e, hbB', cy, hy0, hy1⟩ := hr ((p * 7 + 3) % m) hK2
  injection e with e
  injection e with e1 e2
  subst e1 e2
  generalize p % m = k1 at hK1 t1 cx
  generalize (p * 7 + 3) % m = k2 at hK2 t2 cy
  generalize p / m = qq at hQ t3
  have q : ((m : Int) == 0) = false := ieq_f (by omega)
  have q2 : (n == 0) = false := ieq_f (by omega)
  have z1 : ¬ (m : Int) = 0 := by omega
  have z2 : ¬ m = 0 := by omega
  have hne : ¬ b = rb := by omega
  have HP : Hid (∀ k : Int, 0 ≤ k → k < n → Picked w B rb N n (.returned (.int .i64 k)) (w.setCell ⟨rb, 1, none⟩ (.int .i64 ((p : Int) + 1)))) := fun k hk0 hk => picked_of (n := n) (k := k) h1 hp (by omega) hB hr hk0 (.inr hk)
  have d0 : (w.setCell ⟨rb, 1, none⟩ (.int .i64 ((p : Int) + 1))).cell? ⟨rb, 0, none⟩ = some (.slice (some ⟨b, off, none⟩) m cap) := by rw [World.cell?_setCell_other _ _ _ _ (by simp)]; exact c0
  have dx : (w.setCell ⟨rb, 1, none⟩ (.int .i64 ((p : Int) + 1))).cell? ⟨b, off + k1, none⟩ = some (.int .u8 x) := by rw [World.cell?_setCell_other _ _ _ _ (fun e => hne (by injection e with e; exact e.symm))]; exact cx
  have dy : (w.setCell ⟨rb, 1, none⟩ (.int .i64 ((p : Int) + 1))).cell? ⟨b, off + k2, none⟩ = some (.int .u8 y) := by rw [World.cell?_setCell_other _ _ _ _ (fun e => hne (by injection e with e; exact e.symm))]; exact cy
  clear h1 hr cx cy
  have T1 := Lib.hid t1
  have T2 := Lib.hid t2
  have T3 := Lib.hid t3
  clear t1 t2 t3
  go_enter Try.func19, Try.ntmps19
  go_wp2_with fail
  generalize hw1 : w.setCell ⟨rb, 1, none⟩ (.int .i64 ((p : Int) + 1)) = w1 at d0 dx dy HP ⊢
  clear hw1 c0 c1
  have t1 := T1.out
  have t2 := T2.out
  have t3 := T3.out
  have u1 : IntKind.i64.wrap (x * 131) = x * 131 := IntWalk.i64_in _ (by omega)
  have u2 : IntKind.i64.wrap ((p : Int) * 7) = (p : Int) * 7 := IntWalk.i64_in _ (by omega)
  have u3 : IntKind.i64.wrap ((p : Int) * 7 + 3) = (p : Int) * 7 + 3 := IntWalk.i64_in _ (by omega)
  have u4 : IntKind.i64.wrap (y * 1117) = y * 1117 := IntWalk.i64_in _ (by omega)
  have u5 : IntKind.i64.wrap (x * 131 + y * 1117) = x * 131 + y * 1117 := IntWalk.i64_in _ (by omega)
  have u6 : IntKind.i64.wrap ((p : Int) * 29) = (p : Int) * 29 := IntWalk.i64_in _ (by omega)
  have u7 : IntKind.i64.wrap (x * 131 + y * 1117 + (p : Int) * 29) = x * 131 + y * 1117 + (p : Int) * 29 := IntWalk.i64_in _ (by omega)
  have u8 : IntKind.i64.wrap ((qq : Int) * 53) = (qq : Int) * 53 := IntWalk.i64_in _ (by omega)
  have u9 : IntKind.i64.wrap (x * 131 + y * 1117 + (p : Int) * 29 + (qq : Int) * 53) = x * 131 + y * 1117 + (p : Int) * 29 + (qq : Int) * 53 := IntWalk.i64_in _ (by omega)
  have k1I : (k1 : Int) < (m : Int) := by omega
  have k2I : (k2 : Int) < (m : Int) := by omega
  go_quiet (fail)
  obtain ⟨X, hX⟩ : ∃ X : Nat, x * 131 + y * 1117 + (p : Int) * 29 + (qq : Int) * 53 = X := ⟨(x * 131 + y * 1117 + (p : Int) * 29 + (qq : Int) * 53).toNat, by omega⟩
  have hXb : X < 4294967296 := by omega
  obtain ⟨Z, hZ⟩ := xor_any X hXb
  clear t1 t2 t3 u1 u2 u3 u4 u5 u6 u7 u8 u9
  rw [hX]
  have hXI : (X : Int) < 4294967296 := by omega
  have hX0 : (0 : Int) ≤ X := by omega
  clear hX
  go_wp2_with fail
  go_ret
  refine (HP.out _ ?_ ?_).drewN nq
  · exact Int.emod_nonneg _ (by omega)
  · exact Int.emod_lt_of_pos _ (by omega)
theorem pick_any (rb B N : Nat) (n : Int) (w : World) (h : RRd w B rb N) (hN : N ≤ 10000000) : Calls Try.prog 19 #[.pointer (some ⟨rb, 0, none⟩), .int .i64 n] w (Picked w B rb N n) := by
  obtain ⟨A, m, cap, p, h1, h2, h3, h4, h5⟩ := h
  by_cases hn : n < 1
  · exact pick_low rb B N n A m cap p w h1 h2 hN h3 h4 h5 hn
  · by_cases hm : m = 0
    · subst hm; exact pick_none rb B N n A cap p w h1 h2 hN h4 h5 (by omega)
    · by_cases hp : p < m
      · exact pick_in rb B N n A m cap p w h1 h2 hN h3 h4 h5 (by omega) hp
      · exact pick_out rb B N n A m cap p w h1 h2 hN h3 h4 h5 (by omega) (by omega) (by omega)

/-! One of a list. -/
def PickedI (w : World) (B rb N : Nat) (l : List Int) (e : Ending) (w' : World) : Prop := ∃ k, ∃ h : k < l.length, e = .returned (.int .i64 l[k]) ∧ RRd w' B rb (N + 1) ∧ w.grownBy w' (some rb)
set_option maxHeartbeats 800000 in
theorem num_any (rb B N : Nat) (l : List Int) (A : Option Addr) (cap : Nat) (w : World) (h : RRd w B rb N) (hN : N ≤ 10000000) (hl : 1 ≤ l.length) (hr : RInts w A l) (ha : ∀ b o, A = some ⟨b, o, none⟩ → b ≠ rb) :
    Calls Try.prog 28 #[.pointer (some ⟨rb, 0, none⟩), .slice A l.length cap] w (PickedI w B rb N l) := by
  have H := Lib.hid h
  have HR := Lib.hid hr
  have HA := Lib.hid ha
  have hm := hr.1
  unfold maxLen at hm
  clear h hr ha
  go_enter Try.func28, Try.ntmps28
  go_wp2_with fail
  refine (pick_any rb B N _ _ H.out hN).mono ?_
  rintro e w1 ⟨k, rfl, hk, hR, hg⟩
  have hkl : k < l.length := by omega
  have hkI : (k : Int) < (l.length : Int) := by omega
  obtain ⟨b, off, rfl, hb, hc⟩ := HR.out.2 k hkl
  have hc1 : w1.cell? ⟨b, off + k, none⟩ = some (.int .i64 l[k]) := hg.cell hc (fun e => HA.out b off rfl (by injection e))
  have HX : Hid (RRd w1 B rb (N + 1) ∧ w.grownBy w1 (some rb)) := ⟨hR, hg⟩
  clear hR hg hk hc
  go_wp2_with fail
  go_ret
  exact ⟨k, hkl, rfl, HX.out.1, HX.out.2⟩
/-- The source is opened. -/
def Opened (w : World) (B : Nat) (e : Ending) (w' : World) : Prop := e = .returned (.pointer (some ⟨w.heap.size, 0, none⟩)) ∧ RRd w' B w.heap.size 0 ∧ Below w.heap.size w w'
set_option maxHeartbeats 800000 in
theorem open_any (B n cap : Nat) (A : Option Addr) (w : World) (hn : n ≤ maxLen) (hc : n ≤ cap) (h : RBy w B A n) (hB : B ≤ w.heap.size) : Calls Try.prog 16 #[.slice A n cap] w (Opened w B) := by
  unfold maxLen at hn
  have H := Lib.hid h
  have HN : Hid (∀ (m c : Nat) (ho : m ≤ n) (hm : m ≤ 2000), Opened w B (.returned (.pointer (some ⟨w.heap.size, 0, none⟩))) (w.alloc (.cells #[.slice A m c, .int .i64 0] 55))) := fun m c ho hm =>
    ⟨rfl, ⟨A, m, c, 0, heap_alloc_new w _, Nat.le_refl _, hm, hB, (show RBy w B A m from fun k hk => h k (by omega)).below ((Below.refl _ _).alloc hB _)⟩, (Below.refl _ _).alloc (Nat.le_refl _) _⟩
  by_cases hl : n ≤ 2000
  · have hlI : (n : Int) ≤ 2000 := by omega
    clear h
    go_enter Try.func16, Try.ntmps16
    go_wp2_with fail
    go_ret
    exact HN.out _ _ (Nat.le_refl _) hl
  · have hlI : (2000 : Int) < (n : Int) := by omega
    obtain ⟨b, off, x, rfl, _⟩ := h 0 (by omega)
    clear h
    go_enter Try.func16, Try.ntmps16
    go_wp2_with fail
    go_ret
    exact HN.out _ _ (by omega) (by omega)
end Go.Proofs.Ytakhobhmplneeaa
/-
  Worlds and types that are drawn: the document's functions. No statement is proved here.
-/
namespace Go.Proofs.Ytakhobhmplneeaa
open Go.RowKit Go.Deep
set_option maxRecDepth 100000
set_option linter.unusedVariables false
theorem RStrs.lit (w : World) (cs : Array Value) (l : List ByteArray) (h : cs.toList = l.map Value.string) (hl : l.length ≤ maxLen) : RStrs (w.alloc (.cells cs 9)) (some ⟨w.heap.size, 0, none⟩) l :=
  ⟨hl, fun k hk => ⟨w.heap.size, 0, rfl, by simp, by
    rw [Nat.zero_add, cell_of_blk (heap_alloc_new w _)]
    rw [← Array.getElem?_toList, h, List.getElem?_map, List.getElem?_eq_getElem hk]; rfl⟩⟩
theorem RInts.lit (w : World) (cs : Array Value) (l : List Int) (h : cs.toList = l.map (Value.int .i64)) (hl : l.length ≤ maxLen) : RInts (w.alloc (.cells cs 3)) (some ⟨w.heap.size, 0, none⟩) l :=
  ⟨hl, fun k hk => ⟨w.heap.size, 0, rfl, by simp, by
    rw [Nat.zero_add, cell_of_blk (heap_alloc_new w _)]
    rw [← Array.getElem?_toList, h, List.getElem?_map, List.getElem?_eq_getElem hk]; rfl⟩⟩
theorem l1Texts_any (w : World) : Calls Try.prog 46 #[] w fun e w' => e = .returned (.slice (some ⟨w.heap.size, 0, none⟩) 8 8) ∧ RStrs w' (some ⟨w.heap.size, 0, none⟩) texts ∧ Below w.heap.size w w' := by
  have HB : Hid (∀ o : Obj, Below w.heap.size w (w.alloc o)) := fun o => (Below.refl _ _).alloc (Nat.le_refl _) _
  go_enter Try.func46, Try.ntmps46
  go_wp2_with fail
  go_ret
  exact ⟨rfl, RStrs.lit _ _ _ rfl (by rw [texts_len]; unfold maxLen; omega), HB.out _⟩
theorem grown_of_below {w w' : World} (h : Below w.heap.size w w') (row : Option Nat) : w.grownBy w' row := ⟨h.os, h.tape, h.output, h.size, fun k hk _ => h.block k hk⟩
/-- A type in block b. -/
def BoxT (w : World) (b : Nat) (t : Ty) : Prop := w.heap[b]? = some (.cells #[.int .i64 t.data, .int .i64 t.index] 25 (0, 0))
theorem BoxT.c0 {w : World} {b : Nat} {t : Ty} (h : BoxT w b t) : w.cell? ⟨b, 0, none⟩ = some (.int .i64 t.data) := cell_of_blk h 0
theorem BoxT.c1 {w : World} {b : Nat} {t : Ty} (h : BoxT w b t) : w.cell? ⟨b, 1, none⟩ = some (.int .i64 t.index) := cell_of_blk h 1
theorem BoxT.fz {w : World} {b : Nat} {t : Ty} (h : BoxT w b t) (o : Nat) : w.frozen? ⟨b, o, none⟩ = false := free_of_blk h o
theorem BoxT.lt {w : World} {b : Nat} {t : Ty} (h : BoxT w b t) : b < w.heap.size := heap_lt h
theorem BoxT.grown {w w' : World} {b rb : Nat} {t : Ty} (h : BoxT w b t) (hg : w.grownBy w' (some rb)) (hne : b ≠ rb) : BoxT w' b t := (hg.block b h.lt (fun e => hne (by injection e))).trans h
theorem BoxT.alloc {w : World} {b : Nat} {t : Ty} (h : BoxT w b t) (o : Obj) : BoxT (w.alloc o) b t := (Below.heap_alloc _ _ _ h.lt).trans h
theorem RRd.alloc {w : World} {B rb N : Nat} (h : RRd w B rb N) (o : Obj) : RRd (w.alloc o) B rb N := h.below ((Below.refl _ _).alloc (Nat.le_refl _) _)
theorem RRd.setCell {w : World} {B rb N : Nat} (h : RRd w B rb N) {b i : Nat} {u : Value} (hb : b ≠ rb) (hB : B ≤ b) : RRd (w.setCell ⟨b, i, none⟩ u) B rb N := by
  obtain ⟨A, m, cap, p, h1, h2, h3, h4, h5⟩ := h
  exact ⟨A, m, cap, p, (Below.heap_setCell _ _ _ _ (by simp only; omega)).trans h1, h2, h3, h4, h5.below ((Below.refl _ _).setCell (p := ⟨b, i, none⟩) hB _)⟩
end Go.Proofs.Ytakhobhmplneeaa
/-
  A world that is sometimes made invalid: the document's function. No statement is proved here.
-/
namespace Go.Proofs.Ytakhobhmplneeaa
open Go.RowKit Go.Deep
set_option maxRecDepth 100000
set_option linter.unusedVariables false
theorem RRd.drew {w : World} {B rb N : Nat} (h : RRd w B rb N) : RRd w.drew B rb N := h
theorem RStrs.drew {w : World} {A : Option Addr} {l : List ByteArray} (h : RStrs w A l) : RStrs w.drew A l := h
theorem RInts.drew {w : World} {A : Option Addr} {l : List Int} (h : RInts w A l) : RInts w.drew A l := h
theorem RStrs.lit2 (w : World) (cs : Array Value) (l : List ByteArray) (h : cs.toList = l.map Value.string) (hl : l.length ≤ maxLen) : RStrs (w.alloc (.cells cs 9)).drew (some ⟨w.heap.size, 0, none⟩) l := RStrs.lit w cs l h hl
theorem RInts.lit2 (w : World) (cs : Array Value) (l : List Int) (h : cs.toList = l.map (Value.int .i64)) (hl : l.length ≤ maxLen) : RInts (w.alloc (.cells cs 3)).drew (some ⟨w.heap.size, 0, none⟩) l := RInts.lit w cs l h hl
theorem RInts.alloc {w : World} {A : Option Addr} {l : List Int} (h : RInts w A l) (o : Obj) : RInts (w.alloc o) A l := h.at_ ((Below.refl _ _).alloc (Nat.le_refl _) _)
theorem num_n (rb B N n : Nat) (l : List Int) (hn : l.length = n) (A : Option Addr) (cap : Nat) (w : World) (h : RRd w B rb N) (hN : N ≤ 10000000) (hl : 1 ≤ l.length) (hr : RInts w A l) (ha : ∀ b o, A = some ⟨b, o, none⟩ → b ≠ rb) :
    Calls Try.prog 28 #[.pointer (some ⟨rb, 0, none⟩), .slice A n cap] w (PickedI w B rb N l) := by subst hn; exact num_any rb B N l A cap w h hN hl hr ha
end Go.Proofs.Ytakhobhmplneeaa
/-
  What the statements draw: a world, a type, a number. No statement is proved here.
-/
namespace Go.Proofs.Ytakhobhmplneeaa
open Go.RowKit Go.Deep
set_option maxRecDepth 100000
set_option linter.unusedVariables false
theorem Lies.lower {w : World} {lo lo' : Nat} {v : Value} {l : List Da} (h : Lies w lo v l) (hl : lo' ≤ lo) : Lies w lo' v l := by
  obtain ⟨A3, c3, e3, hrd⟩ := h
  exact ⟨A3, c3, e3, fun wx hs => hrd wx ⟨hs.1, fun b h1 hb => hs.2 b (Nat.le_trans hl h1) hb⟩⟩
theorem two_far {w : World} {b c i j o : Nat} {u x v : Value} (hne : b ≠ c) (h : w.cell? ⟨c, o, none⟩ = some v) : ((w.setCell ⟨b, i, none⟩ u).setCell ⟨b, j, none⟩ x).cell? ⟨c, o, none⟩ = some v :=
  (World.cell?_setCell_other _ _ _ _ (fun e => hne (by injection e))).trans ((World.cell?_setCell_other _ _ _ _ (fun e => hne (by injection e))).trans h)
end Go.Proofs.Ytakhobhmplneeaa
