/-
  A source of numbers: the document's reader of bytes. No statement is proved here.
-/
import Derived.Test.YthebdlejoficmabDoorG01
import Derived.Test.YthebdlejoficmabDoorG00
import Derived.Deep.QuietTactic
import Derived.BigQuiet
import Derived.Outline
import Derived.OrdersHeld
import Derived.Deep.RegionHeld3
import Derived.Laws.StructEq
namespace Go.Proofs.YthebdlejoficmabDoor
open Go.RowKit Go.Deep
set_option maxRecDepth 100000
set_option linter.unusedVariables false

/-- Bytes that read below block B. -/
def RBy (w : World) (B : Nat) (A : Option Addr) (m : Nat) : Prop := ∀ k, k < m → ∃ b off x, A = some ⟨b, off, none⟩ ∧ b < B ∧ w.cell? ⟨b, off + k, none⟩ = some (.int .u8 x) ∧ 0 ≤ x ∧ x ≤ 255
/-- The source in block rb, of which at most N numbers were drawn. -/
def RRd (w : World) (B rb N : Nat) : Prop := ∃ A m cap, ∃ p : Nat, w.heap[rb]? = some (.cells #[.slice A m cap, .int .i64 p] 62 (0, 0)) ∧ p ≤ N ∧ m ≤ 2000 ∧ B ≤ rb ∧ RBy w B A m
theorem RBy.below {w w' : World} {B : Nat} {A : Option Addr} {m : Nat} (h : RBy w B A m) (hb : Below B w w') : RBy w' B A m := fun k hk => by
  obtain ⟨b, off, x, e, hB, hc, hx⟩ := h k hk
  exact ⟨b, off, x, e, hB, (hb.cell (p := ⟨b, off + k, none⟩) hB).trans hc, hx⟩
theorem RRd.more {w : World} {B rb N N' : Nat} (h : RRd w B rb N) (hN : N ≤ N') : RRd w B rb N' := by
  obtain ⟨A, m, cap, p, h1, h2, h3, h4, h5⟩ := h
  exact ⟨A, m, cap, p, h1, by omega, h3, h4, h5⟩
theorem RRd.below {w w' : World} {B rb N : Nat} (h : RRd w B rb N) (hb : Below w.heap.size w w') : RRd w' B rb N := by
  obtain ⟨A, m, cap, p, h1, h2, h3, h4, h5⟩ := h
  exact ⟨A, m, cap, p, (hb.block rb (heap_lt h1)).trans h1, h2, h3, h4, h5.below (hb.mono (by have := heap_lt h1; omega))⟩
theorem RRd.lt {w : World} {B rb N : Nat} (h : RRd w B rb N) : rb < w.heap.size := by
  obtain ⟨A, m, cap, p, h1, _⟩ := h
  exact heap_lt h1
theorem RRd.ge {w : World} {B rb N : Nat} (h : RRd w B rb N) : B ≤ rb := by
  obtain ⟨A, m, cap, p, _, _, _, h4, _⟩ := h
  exact h4
/-- A number below n was drawn. -/
def Picked (w : World) (B rb N : Nat) (n : Int) (e : Ending) (w' : World) : Prop := ∃ k : Nat, e = .returned (.int .i64 k) ∧ (k = 0 ∨ (k : Int) < n) ∧ RRd w' B rb (N + 1) ∧ w.grownBy w' (some rb)


theorem picked_of {w : World} {B rb N p : Nat} {n k : Int} {A : Option Addr} {m cap : Nat} (h1 : w.heap[rb]? = some (.cells #[.slice A m cap, .int .i64 p] 62 (0, 0))) (hp : p ≤ N) (hm : m ≤ 2000) (hB : B ≤ rb) (hr : RBy w B A m) (hk : 0 ≤ k) (hn : k = 0 ∨ k < n) :
    Picked w B rb N n (.returned (.int .i64 k)) (w.setCell ⟨rb, 1, none⟩ (.int .i64 ((p : Int) + 1))) := by
  obtain ⟨k, rfl⟩ : ∃ q : Nat, k = q := ⟨k.toNat, by omega⟩
  refine ⟨k, rfl, by omega, ⟨A, m, cap, p + 1, ?_, by omega, hm, hB, ?_⟩, ?_⟩
  · rw [heap_setCell_same w rb 1 _ _ _ h1]; simp
  · exact hr.below (((Below.refl _ _).setCell (p := ⟨rb, 1, none⟩) hB _))
  · refine ⟨rfl, rfl, rfl, by simp [World.setCell], fun b hb hne => Below.heap_setCell _ _ _ _ (fun e => hne (by rw [e]))⟩
theorem Picked.drewN {w w' : World} {B rb N : Nat} {n : Int} {e : Ending} (h : Picked w B rb N n e w') (k : Nat) : Picked w B rb N n e (w'.drewN k) := by
  obtain ⟨q, h1, h2, ⟨A, m, cap, p, h3, h4, h5, h6, h7⟩, h8⟩ := h
  exact ⟨q, h1, h2, ⟨A, m, cap, p, h3, h4, h5, h6, h7⟩, h8.os, h8.tape, h8.output, h8.size, h8.block⟩
set_option maxHeartbeats 1600000 in
theorem pick_low (rb B N : Nat) (n : Int) (A : Option Addr) (m cap p : Nat) (w : World) (h1 : w.heap[rb]? = some (.cells #[.slice A m cap, .int .i64 p] 62 (0, 0))) (hp : p ≤ N) (hN : N ≤ 100000) (hm : m ≤ 2000) (hB : B ≤ rb) (hr : RBy w B A m) (hn : n < 1) :
    Calls Tryd.prog 28 #[.pointer (some ⟨rb, 0, none⟩), .int .i64 n] w (Picked w B rb N n) := by
  have c0 : w.cell? ⟨rb, 0, none⟩ = some (.slice A m cap) := cell_of_blk h1 0
  have c1 : w.cell? ⟨rb, 1, none⟩ = some (.int .i64 p) := cell_of_blk h1 1
  have fz := free_of_blk h1
  have hpI : (p : Int) ≤ 100000 := by omega
  have hp0 : (0 : Int) ≤ (p : Int) := by omega
  have HP := Lib.hid (picked_of (n := n) (k := 0) h1 hp hm hB hr (by omega) (.inl rfl))
  clear h1 hr
  go_enter Tryd.func28, Tryd.ntmps28
  go_wp2_with fail
  go_ret
  exact HP.out
set_option maxHeartbeats 1600000 in
theorem pick_none (rb B N : Nat) (n : Int) (A : Option Addr) (cap p : Nat) (w : World) (h1 : w.heap[rb]? = some (.cells #[.slice A 0 cap, .int .i64 p] 62 (0, 0))) (hp : p ≤ N) (hN : N ≤ 100000) (hB : B ≤ rb) (hr : RBy w B A 0) (hn : 1 ≤ n) :
    Calls Tryd.prog 28 #[.pointer (some ⟨rb, 0, none⟩), .int .i64 n] w (Picked w B rb N n) := by
  have c0 : w.cell? ⟨rb, 0, none⟩ = some (.slice A 0 cap) := cell_of_blk h1 0
  have c1 : w.cell? ⟨rb, 1, none⟩ = some (.int .i64 p) := cell_of_blk h1 1
  have fz := free_of_blk h1
  have hpI : (p : Int) ≤ 100000 := by omega
  have hp0 : (0 : Int) ≤ (p : Int) := by omega
  have HP := Lib.hid (picked_of (n := n) (k := 0) h1 hp (by omega) hB hr (by omega) (.inl rfl))
  clear h1 hr
  go_enter Tryd.func28, Tryd.ntmps28
  go_wp2_with fail
  go_ret
  exact HP.out
set_option maxHeartbeats 1600000 in
theorem pick_in (rb B N : Nat) (n : Int) (A : Option Addr) (m cap p : Nat) (w : World) (h1 : w.heap[rb]? = some (.cells #[.slice A m cap, .int .i64 p] 62 (0, 0))) (hp : p ≤ N) (hN : N ≤ 100000) (hm : m ≤ 2000) (hB : B ≤ rb) (hr : RBy w B A m) (hn : 1 ≤ n) (hlt : p < m) :
    Calls Tryd.prog 28 #[.pointer (some ⟨rb, 0, none⟩), .int .i64 n] w (Picked w B rb N n) := by
  have c0 : w.cell? ⟨rb, 0, none⟩ = some (.slice A m cap) := cell_of_blk h1 0
  have c1 : w.cell? ⟨rb, 1, none⟩ = some (.int .i64 p) := cell_of_blk h1 1
  have fz := free_of_blk h1
  obtain ⟨b, off, x, rfl, hbB, cx, hx0, hx1⟩ := hr p hlt
  have hpI : (p : Int) ≤ 100000 := by omega
  have hp0 : (0 : Int) ≤ (p : Int) := by omega
  have hltI : (p : Int) < (m : Int) := by omega
  have q : ((m : Int) == 0) = false := ieq_f (by omega)
  have q2 : (n == 0) = false := ieq_f (by omega)
  have hne : ¬ b = rb := by omega
  have HP := Lib.hid (picked_of (n := n) (k := x % n) h1 hp (by omega) hB hr (Int.emod_nonneg _ (by omega)) (.inr (Int.emod_lt_of_pos _ (by omega))))
  clear h1 hr
  go_enter Tryd.func28, Tryd.ntmps28
  go_wp2_with fail
  go_ret
  exact HP.out
theorem xor_any (X : Nat) (hX : X < 4294967296) : ∃ Z : Nat, bits .xor .i64 (X : Int) ((X : Int) / 64) = (Z : Int) := by
  refine ⟨X ^^^ X / 64, ?_⟩
  have d : ((X : Int) / 64) = ((X / 64 : Nat) : Int) := by omega
  rw [d]
  have hY : X / 64 < 4294967296 := by omega
  have hz : X ^^^ X / 64 < 2 ^ 32 := Nat.xor_lt_two_pow (by omega) (by omega)
  have h1 : (BitVec.ofInt 64 (X : Int)).toNat = X := by rw [BitVec.ofInt_natCast, BitVec.toNat_ofNat]; exact Nat.mod_eq_of_lt (by omega)
  have h2 : (BitVec.ofInt 64 ((X / 64 : Nat) : Int)).toNat = X / 64 := by rw [BitVec.ofInt_natCast, BitVec.toNat_ofNat]; exact Nat.mod_eq_of_lt (by omega)
  show IntKind.i64.wrap ((BitVec.ofInt 64 (X : Int) ^^^ BitVec.ofInt 64 ((X / 64 : Nat) : Int)).toNat : Int) = _
  rw [BitVec.toNat_xor, h1, h2]
  exact IntWalk.i64_in _ (by omega)
set_option maxHeartbeats 1600000 in
theorem pick_out (rb B N : Nat) (n : Int) (A : Option Addr) (m cap p : Nat) (w : World) (h1 : w.heap[rb]? = some (.cells #[.slice A m cap, .int .i64 p] 62 (0, 0))) (hp : p ≤ N) (hN : N ≤ 100000) (hm : m ≤ 2000) (hB : B ≤ rb) (hr : RBy w B A m) (hn : 1 ≤ n) (hm0 : 1 ≤ m) (hlt : m ≤ p) :
    Calls Tryd.prog 28 #[.pointer (some ⟨rb, 0, none⟩), .int .i64 n] w (Picked w B rb N n) := by
  have c0 : w.cell? ⟨rb, 0, none⟩ = some (.slice A m cap) := cell_of_blk h1 0
  have c1 : w.cell? ⟨rb, 1, none⟩ = some (.int .i64 p) := cell_of_blk h1 1
  have fz := free_of_blk h1
  have hpI : (p : Int) ≤ 100000 := by omega
  have hp0 : (0 : Int) ≤ (p : Int) := by omega
  have hm0I : (1 : Int) ≤ (m : Int) := by omega
  have hmI : (m : Int) ≤ 2000 := by omega
  have hltI : (m : Int) ≤ (p : Int) := by omega
  have hK1 := Nat.mod_lt p (show 0 < m by omega)
  have hK2 := Nat.mod_lt (p * 7 + 3) (show 0 < m by omega)
  have hQ := Nat.div_le_self p m
  have t1 : (p : Int).tmod m = ((p % m : Nat) : Int) := rfl
  have t2 : ((p : Int) * 7 + 3).tmod m = (((p * 7 + 3) % m : Nat) : Int) := by
    have : ((p : Int) * 7 + 3) = ((p * 7 + 3 : Nat) : Int) := by omega
    rw [this]; rfl
  have t3 : (p : Int) / (m : Int) = ((p / m : Nat) : Int) := rfl
  obtain ⟨b, off, x, rfl, hbB, cx, hx0, hx1⟩ := hr (p % m) hK1
  obtain ⟨b', off', y, e, hbB', cy, hy0, hy1⟩ := hr ((p * 7 + 3) % m) hK2
  injection e with e
  injection e with e1 e2
  subst e1 e2
  generalize p % m = k1 at hK1 t1 cx
  generalize (p * 7 + 3) % m = k2 at hK2 t2 cy
  generalize p / m = qq at hQ t3
  have q : ((m : Int) == 0) = false := ieq_f (by omega)
  have q2 : (n == 0) = false := ieq_f (by omega)
  have z1 : ¬ (m : Int) = 0 := by omega
  have z2 : ¬ m = 0 := by omega
  have hne : ¬ b = rb := by omega
  have HP : Hid (∀ k : Int, 0 ≤ k → k < n → Picked w B rb N n (.returned (.int .i64 k)) (w.setCell ⟨rb, 1, none⟩ (.int .i64 ((p : Int) + 1)))) := fun k hk0 hk => picked_of (n := n) (k := k) h1 hp (by omega) hB hr hk0 (.inr hk)
  have d0 : (w.setCell ⟨rb, 1, none⟩ (.int .i64 ((p : Int) + 1))).cell? ⟨rb, 0, none⟩ = some (.slice (some ⟨b, off, none⟩) m cap) := by rw [World.cell?_setCell_other _ _ _ _ (by simp)]; exact c0
  have dx : (w.setCell ⟨rb, 1, none⟩ (.int .i64 ((p : Int) + 1))).cell? ⟨b, off + k1, none⟩ = some (.int .u8 x) := by rw [World.cell?_setCell_other _ _ _ _ (fun e => hne (by injection e with e; exact e.symm))]; exact cx
  have dy : (w.setCell ⟨rb, 1, none⟩ (.int .i64 ((p : Int) + 1))).cell? ⟨b, off + k2, none⟩ = some (.int .u8 y) := by rw [World.cell?_setCell_other _ _ _ _ (fun e => hne (by injection e with e; exact e.symm))]; exact cy
  clear h1 hr cx cy
  have T1 := Lib.hid t1
  have T2 := Lib.hid t2
  have T3 := Lib.hid t3
  clear t1 t2 t3
  go_enter Tryd.func28, Tryd.ntmps28
  go_wp2_with fail
  generalize hw1 : w.setCell ⟨rb, 1, none⟩ (.int .i64 ((p : Int) + 1)) = w1 at d0 dx dy HP ⊢
  clear hw1 c0 c1
  have t1 := T1.out
  have t2 := T2.out
  have t3 := T3.out
  have u1 : IntKind.i64.wrap (x * 131) = x * 131 := IntWalk.i64_in _ (by omega)
  have u2 : IntKind.i64.wrap ((p : Int) * 7) = (p : Int) * 7 := IntWalk.i64_in _ (by omega)
  have u3 : IntKind.i64.wrap ((p : Int) * 7 + 3) = (p : Int) * 7 + 3 := IntWalk.i64_in _ (by omega)
  have u4 : IntKind.i64.wrap (y * 1117) = y * 1117 := IntWalk.i64_in _ (by omega)
  have u5 : IntKind.i64.wrap (x * 131 + y * 1117) = x * 131 + y * 1117 := IntWalk.i64_in _ (by omega)
  have u6 : IntKind.i64.wrap ((p : Int) * 29) = (p : Int) * 29 := IntWalk.i64_in _ (by omega)
  have u7 : IntKind.i64.wrap (x * 131 + y * 1117 + (p : Int) * 29) = x * 131 + y * 1117 + (p : Int) * 29 := IntWalk.i64_in _ (by omega)
  have u8 : IntKind.i64.wrap ((qq : Int) * 53) = (qq : Int) * 53 := IntWalk.i64_in _ (by omega)
  have u9 : IntKind.i64.wrap (x * 131 + y * 1117 + (p : Int) * 29 + (qq : Int) * 53) = x * 131 + y * 1117 + (p : Int) * 29 + (qq : Int) * 53 := IntWalk.i64_in _ (by omega)
  have k1I : (k1 : Int) < (m : Int) := by omega
  have k2I : (k2 : Int) < (m : Int) := by omega
  go_quiet (fail)
  obtain ⟨X, hX⟩ : ∃ X : Nat, x * 131 + y * 1117 + (p : Int) * 29 + (qq : Int) * 53 = X := ⟨(x * 131 + y * 1117 + (p : Int) * 29 + (qq : Int) * 53).toNat, by omega⟩
  have hXb : X < 4294967296 := by omega
  obtain ⟨Z, hZ⟩ := xor_any X hXb
  clear t1 t2 t3 u1 u2 u3 u4 u5 u6 u7 u8 u9
  rw [hX]
  have hXI : (X : Int) < 4294967296 := by omega
  have hX0 : (0 : Int) ≤ X := by omega
  clear hX
  go_wp2_with fail
  go_ret
  refine (HP.out _ ?_ ?_).drewN nq
  · exact Int.emod_nonneg _ (by omega)
  · exact Int.emod_lt_of_pos _ (by omega)
theorem pick_any (rb B N : Nat) (n : Int) (w : World) (h : RRd w B rb N) (hN : N ≤ 100000) : Calls Tryd.prog 28 #[.pointer (some ⟨rb, 0, none⟩), .int .i64 n] w (Picked w B rb N n) := by
  obtain ⟨A, m, cap, p, h1, h2, h3, h4, h5⟩ := h
  by_cases hn : n < 1
  · exact pick_low rb B N n A m cap p w h1 h2 hN h3 h4 h5 hn
  · by_cases hm : m = 0
    · subst hm; exact pick_none rb B N n A cap p w h1 h2 hN h4 h5 (by omega)
    · by_cases hp : p < m
      · exact pick_in rb B N n A m cap p w h1 h2 hN h3 h4 h5 (by omega) hp
      · exact pick_out rb B N n A m cap p w h1 h2 hN h3 h4 h5 (by omega) (by omega) (by omega)

/-! One of a list. -/
def PickedS (w : World) (B rb N : Nat) (l : List ByteArray) (e : Ending) (w' : World) : Prop := ∃ k, ∃ h : k < l.length, e = .returned (.string l[k]) ∧ RRd w' B rb (N + 1) ∧ w.grownBy w' (some rb)
def PickedI (w : World) (B rb N : Nat) (l : List Int) (e : Ending) (w' : World) : Prop := ∃ k, ∃ h : k < l.length, e = .returned (.int .i64 l[k]) ∧ RRd w' B rb (N + 1) ∧ w.grownBy w' (some rb)
set_option maxHeartbeats 800000 in
theorem of_any (rb B N : Nat) (l : List ByteArray) (A : Option Addr) (cap : Nat) (w : World) (h : RRd w B rb N) (hN : N ≤ 100000) (hl : 1 ≤ l.length) (hr : RStrs w A l) (ha : ∀ b o, A = some ⟨b, o, none⟩ → b ≠ rb) :
    Calls Tryd.prog 19 #[.pointer (some ⟨rb, 0, none⟩), .slice A l.length cap] w (PickedS w B rb N l) := by
  have H := Lib.hid h
  have HR := Lib.hid hr
  have HA := Lib.hid ha
  have hm := hr.1
  unfold maxLen at hm
  clear h hr ha
  go_enter Tryd.func19, Tryd.ntmps19
  go_wp2_with fail
  refine (pick_any rb B N _ _ H.out hN).mono ?_
  rintro e w1 ⟨k, rfl, hk, hR, hg⟩
  have hkl : k < l.length := by omega
  have hkI : (k : Int) < (l.length : Int) := by omega
  obtain ⟨b, off, rfl, hb, hc⟩ := HR.out.2 k hkl
  have hc1 : w1.cell? ⟨b, off + k, none⟩ = some (.string l[k]) := hg.cell hc (fun e => HA.out b off rfl (by injection e))
  have HX : Hid (RRd w1 B rb (N + 1) ∧ w.grownBy w1 (some rb)) := ⟨hR, hg⟩
  clear hR hg hk hc
  go_wp2_with fail
  go_ret
  exact ⟨k, hkl, rfl, HX.out.1, HX.out.2⟩
set_option maxHeartbeats 800000 in
theorem num_any (rb B N : Nat) (l : List Int) (A : Option Addr) (cap : Nat) (w : World) (h : RRd w B rb N) (hN : N ≤ 100000) (hl : 1 ≤ l.length) (hr : RInts w A l) (ha : ∀ b o, A = some ⟨b, o, none⟩ → b ≠ rb) :
    Calls Tryd.prog 47 #[.pointer (some ⟨rb, 0, none⟩), .slice A l.length cap] w (PickedI w B rb N l) := by
  have H := Lib.hid h
  have HR := Lib.hid hr
  have HA := Lib.hid ha
  have hm := hr.1
  unfold maxLen at hm
  clear h hr ha
  go_enter Tryd.func47, Tryd.ntmps47
  go_wp2_with fail
  refine (pick_any rb B N _ _ H.out hN).mono ?_
  rintro e w1 ⟨k, rfl, hk, hR, hg⟩
  have hkl : k < l.length := by omega
  have hkI : (k : Int) < (l.length : Int) := by omega
  obtain ⟨b, off, rfl, hb, hc⟩ := HR.out.2 k hkl
  have hc1 : w1.cell? ⟨b, off + k, none⟩ = some (.int .i64 l[k]) := hg.cell hc (fun e => HA.out b off rfl (by injection e))
  have HX : Hid (RRd w1 B rb (N + 1) ∧ w.grownBy w1 (some rb)) := ⟨hR, hg⟩
  clear hR hg hk hc
  go_wp2_with fail
  go_ret
  exact ⟨k, hkl, rfl, HX.out.1, HX.out.2⟩
/-- The source is opened. -/
def Opened (w : World) (B : Nat) (e : Ending) (w' : World) : Prop := e = .returned (.pointer (some ⟨w.heap.size, 0, none⟩)) ∧ RRd w' B w.heap.size 0 ∧ Below w.heap.size w w'
set_option maxHeartbeats 800000 in
theorem open_any (B n cap : Nat) (A : Option Addr) (w : World) (hn : n ≤ maxLen) (hc : n ≤ cap) (h : RBy w B A n) (hB : B ≤ w.heap.size) : Calls Tryd.prog 18 #[.slice A n cap] w (Opened w B) := by
  unfold maxLen at hn
  have H := Lib.hid h
  have HN : Hid (∀ (m c : Nat) (ho : m ≤ n) (hm : m ≤ 2000), Opened w B (.returned (.pointer (some ⟨w.heap.size, 0, none⟩))) (w.alloc (.cells #[.slice A m c, .int .i64 0] 62))) := fun m c ho hm =>
    ⟨rfl, ⟨A, m, c, 0, heap_alloc_new w _, Nat.le_refl _, hm, hB, (show RBy w B A m from fun k hk => h k (by omega)).below ((Below.refl _ _).alloc hB _)⟩, (Below.refl _ _).alloc (Nat.le_refl _) _⟩
  by_cases hl : n ≤ 2000
  · have hlI : (n : Int) ≤ 2000 := by omega
    clear h
    go_enter Tryd.func18, Tryd.ntmps18
    go_wp2_with fail
    go_ret
    exact HN.out _ _ (Nat.le_refl _) hl
  · have hlI : (2000 : Int) < (n : Int) := by omega
    obtain ⟨b, off, x, rfl, _⟩ := h 0 (by omega)
    clear h
    go_enter Tryd.func18, Tryd.ntmps18
    go_wp2_with fail
    go_ret
    exact HN.out _ _ (by omega) (by omega)
end Go.Proofs.YthebdlejoficmabDoor
/-
  A region whose last operation waits for all others: a condition on the world that holds until that one comes up. No statement is proved here.
-/
namespace Go.Proofs.YthebdlejoficmabDoor
open Go
set_option linter.unusedVariables false

section
variable {P : Program} {ops : Array Oper} {Q : Exit → Act → World → Prop} {md : Region.Mode} {S : World → Prop} {z : Nat}
/-- Whatever comes up next, the condition holds behind it, unless it is number z; and so on. -/
def Till (P : Program) (md : Region.Mode) (ops : Array Oper) (Q : Exit → Act → World → Prop) (S : World → Prop) (z : Nat) : Nat → Array Bool → Act → World → Prop
  | 0, ls, a, w => Region.ready md ops ls = [] ∧ Q .normal a w
  | n + 1, ls, a, w => (Region.ready md ops ls = [] → Q .normal a w) ∧ ∀ i ∈ Region.ready md ops ls, wpOp P ops Q i (fun b v => (i ≠ z → S v) ∧ Till P md ops Q S z n (ls.setIfInBounds i true) b v) a w
theorem Till.any : ∀ (n : Nat) (ls : Array Bool) (a : Act) (w : World), Till P md ops Q S z n ls a w → wpAny P md ops Q n ls a w
  | 0, _, _, _, h => h
  | n + 1, ls, a, w, h => ⟨h.1, fun i hi => wpOp_mono (fun b v hv => Till.any n _ b v hv.2) (h.2 i hi)⟩
/-- Does number z wait for number i? -/
def waitB (md : Region.Mode) (ops : Array Oper) (z i : Nat) : Bool := match ops[z]? with
  | some o => o.after.any fun e => Region.binds md e && e.on == i
  | none => true
theorem wait_not {i : Nat} {ls : Array Bool} (h : waitB md ops z i = true) (hi : i ∈ Region.ready md ops ls) : ¬ z ∈ Region.ready md ops ls := fun hz => by
  obtain ⟨_, o, ho, hall⟩ := mem_ready.1 hz
  obtain ⟨hun, oi, hoi, _⟩ := mem_ready.1 hi
  unfold waitB at h
  rw [ho] at h
  simp only at h
  obtain ⟨e, he, hb⟩ := Array.any_eq_true'.1 h
  simp only [Bool.and_eq_true, beq_iff_eq] at hb
  have h1 := hall e he hb.1
  rw [hb.2] at h1
  rcases Nat.lt_or_ge i ls.size with hlt | hge
  · simp [hlt] at hun h1; rw [hun] at h1; cases h1
  · simp [Array.getElem?_eq_none hge] at h1
theorem Till.first {i : Nat} {oi : Oper} {v : Value} (hi : ops[i]? = some oi) (hs : Region.noSelect ops = true) (hQ : ∀ c a w, Q (.panic c) (a.put oi.dst v) w → Q (.panic c) a w) (hw : waitB md ops z i = true) :
    ∀ (n : Nat) (ls : Array Bool) (a : Act) (w : World), (∀ j oj, ops[j]? = some oj → j ≠ i → ls.getD j true = false → (∀ e ∈ oj.after, Region.binds md e = true → e.on ≠ i) → oi.apart ops oj = true) →
      i ∈ Region.ready md ops ls → i ≠ z → YieldsIf P ops S oi v a → S w → Till P md ops Q S z n (ls.setIfInBounds i true) (a.put oi.dst v) w → Till P md ops Q S z (n + 1) ls a w := by
  intro n
  have hsel := Region.noSelect_spec hs
  induction n with
  | zero =>
    intro ls a w _ hr hz hy hS H
    refine ⟨fun h => (by rw [h] at hr; cases hr), fun j hj => ?_⟩
    by_cases e : j = i
    · subst e; exact hy.wpOp hi hS ⟨fun _ => hS, H⟩
    · have := ready_mono hj e
      rw [H.1] at this
      cases this
  | succ n ih =>
    intro ls a w hfree hr hz hy hS H
    refine ⟨fun h => (by rw [h] at hr; cases hr), fun j hj => ?_⟩
    by_cases e : j = i
    · subst e; exact hy.wpOp hi hS ⟨fun _ => hS, H⟩
    · have hjz : j ≠ z := fun ez => wait_not hw hr (ez ▸ hj)
      have h1 := H.2 j (ready_mono hj e)
      obtain ⟨hun, oj, hoj, hall⟩ := mem_ready.1 hj
      have hno : ∀ d ∈ oj.after, Region.binds md d = true → d.on ≠ i := fun d hd hb heq => by
        have h2 := hall d hd hb
        have h3 := (mem_ready.1 hr).1
        rw [heq] at h2
        rcases Nat.lt_or_ge i ls.size with hlt | hge
        · simp [hlt] at h3 h2; rw [h3] at h2; cases h2
        · simp [Array.getElem?_eq_none hge] at h2
      have h2 := wpOp_putIf hoj (hfree j oj hoj e hun hno) (fun cs b => hsel i oi cs b hi) (fun cs b => hsel j oj cs b hoj) hQ hy h1
      refine wpOp_mono (fun b v h3 => ⟨fun _ => h3.2.1 hjz, ih (ls.setIfInBounds j true) b v ?_ (ready_mono hr (Ne.symm e)) hz h3.1 (h3.2.1 hjz) ?_⟩) h2
      · intro k ok hk hki huk hnk
        refine hfree k ok hk hki ?_ hnk
        by_cases ek : j = k
        · subst ek; exact hun
        · rw [getD_set_ne true ek] at huk; exact huk
      · rw [Array.setIfInBounds_comm _ _ e]
        exact h3.2.2
theorem Till.take {i : Nat} {oi : Oper} {v : Value} {n : Nat} {ls : Array Bool} {a : Act} {w : World} (hi : ops[i]? = some oi) (hs : Region.noSelect ops = true) (hf : Region.free md ops ls i = true)
    (hr : (Region.ready md ops ls).contains i = true) (hw : (waitB md ops z i && i != z) = true) (hQ : ∀ c a w, Q (.panic c) (a.put oi.dst v) w → Q (.panic c) a w) (hS : S w) (hy : YieldsIf P ops S oi v a)
    (h : Till P md ops Q S z n (ls.setIfInBounds i true) (a.put oi.dst v) w) : Till P md ops Q S z (n + 1) ls a w := by
  rw [Bool.and_eq_true, bne_iff_ne] at hw
  exact Till.first hi hs hQ hw.1 n ls a w (Region.free_spec hi hf) (by simpa using hr) hw.2 hy hS h
theorem Till.take_ {i : Nat} {oi : Oper} {d : Option Tmp} {v : Value} {n : Nat} {ls ls' : Array Bool} {a : Act} {w : World} (hi : ops[i]? = some oi) (hd : ops[i]?.map (fun o => o.dst) = some d) (hs : Region.noSelect ops = true) (hf : Region.free md ops ls i = true)
    (hr : (Region.ready md ops ls).contains i = true) (hw : (waitB md ops z i && i != z) = true) (hQ : ∀ c a w, Q (.panic c) (a.put d v) w → Q (.panic c) a w) (hS : S w) (hy : YieldsIf P ops S oi v a) (hl : ls.setIfInBounds i true = ls')
    (h : Till P md ops Q S z n ls' (a.put d v) w) : Till P md ops Q S z (n + 1) ls a w := by
  have e : oi.dst = d := by rw [hi] at hd; injection hd
  subst e hl
  exact Till.take hi hs hf hr hw hQ hS hy h
/-- One operation comes up. -/
theorem Till.step {i : Nat} {o : Oper} {n : Nat} {ls : Array Bool} {a : Act} {w : World} (ho : ops[i]? = some o) (hw : Region.wanted o (yielded ops a.tmps) = true)
    (h : ∀ K : Act → World → Prop, (∀ b v, (i ≠ z → S v) → Till P md ops Q S z n (ls.setIfInBounds i true) b v → K b v) → o.wp P a w K Q) :
    wpOp P ops Q i (fun b v => (i ≠ z → S v) ∧ Till P md ops Q S z n (ls.setIfInBounds i true) b v) a w := by
  unfold wpOp
  simp only [ho, hw, if_true]
  exact .inl (h _ fun b v h1 h2 => ⟨h1, h2⟩)
theorem Till.all {rs : List Nat} {n : Nat} {ls : Array Bool} {a : Act} {w : World} (hr : Region.ready md ops ls = rs) (hne : rs ≠ [])
    (h : ∀ i ∈ rs, wpOp P ops Q i (fun b v => (i ≠ z → S v) ∧ Till P md ops Q S z n (ls.setIfInBounds i true) b v) a w) : Till P md ops Q S z (n + 1) ls a w :=
  ⟨fun h0 => absurd (hr ▸ h0) hne, hr ▸ h⟩
theorem Till.done {ls : Array Bool} {a : Act} {w : World} (hr : Region.ready md ops ls = []) (h : Q .normal a w) : ∀ n, Till P md ops Q S z n ls a w
  | 0 => ⟨hr, h⟩
  | _ + 1 => ⟨fun _ => h, by rw [hr]; simp⟩
theorem Till.start {id : Nat} {a : Act} {w : World} (hm : P.follows .mixedOrders = true) (h : Till P .any ops Q S z ops.size (Array.replicate ops.size false) a w.drew) : (Code.region id ops true).wp P Q a w :=
  wp_region_any hm (Till.any _ _ _ _ h)
end
end Go.Proofs.YthebdlejoficmabDoor
/-
  When two lists of data types are equal: the program's function and the document's. No statement is proved here.
-/
namespace Go.Proofs.YthebdlejoficmabDoor
open Go.RowKit Go.Sort
set_option maxRecDepth 100000
set_option linter.unusedVariables false

/-- Are the two equal? -/
noncomputable def eqv {α : Type} (a b : α) : Bool := @decide (a = b) (Classical.propDecidable _)
theorem eqv_t {α : Type} {a b : α} (h : a = b) : eqv a b = true := by unfold eqv; simp [h]
theorem eqv_f {α : Type} {a b : α} (h : ¬ a = b) : eqv a b = false := by unfold eqv; simp [h]

theorem neqTy_no (t : Ty) (w : World) : (Go.binOp .neq 39 (.agg #[.int .i64 t.data, .int .i64 t.index]) (.agg #[.int .i64 t.data, .int .i64 t.index])).run Tryd.prog w = .ok (.bool false) w := by
  have hS : Tryd.prog.underlying 39 = some (.struct (Tryd.prog.fieldsOf 39)) := by kernel_rfl
  have hp : Tryd.prog.stoodInHeld 39 = false := by kernel_rfl
  have u3 := Tryd.underlying3
  have a3 := Tryd.isAgg3
  have z3 := Tryd.sizeOf3
  rw [run_neq_struct, show (10000 : Nat) = 9999 + 1 from rfl, run_equalIn_agg w 9999 39 _ _ hS hp]
  simp only [Program.fieldsOf, Tryd.underlying39]
  go_simp
theorem neqTy_yes (t u : Ty) (h : t ≠ u) (w : World) : (Go.binOp .neq 39 (.agg #[.int .i64 t.data, .int .i64 t.index]) (.agg #[.int .i64 u.data, .int .i64 u.index])).run Tryd.prog w = .ok (.bool true) w := by
  have hS : Tryd.prog.underlying 39 = some (.struct (Tryd.prog.fieldsOf 39)) := by kernel_rfl
  have hp : Tryd.prog.stoodInHeld 39 = false := by kernel_rfl
  have u3 := Tryd.underlying3
  have a3 := Tryd.isAgg3
  have z3 := Tryd.sizeOf3
  rw [run_neq_struct, show (10000 : Nat) = 9999 + 1 from rfl, run_equalIn_agg w 9999 39 _ _ hS hp]
  simp only [Program.fieldsOf, Tryd.underlying39]
  obtain ⟨a, b⟩ := t
  obtain ⟨c, d⟩ := u
  have h' : ¬ (a = c ∧ b = d) := fun ⟨e1, e2⟩ => h (by rw [e1, e2])
  go_simp
  by_cases h1 : a = c <;> by_cases h2 : b = d <;> simp_all
theorem guardTy (x y : Operand) (xs ys : Array Value) (w : World) : (eqGuard .neq 39 x y (.agg xs) (.agg ys)).run Tryd.prog w = .ok () w := run_eqGuard_agg (P := Tryd.prog) w .neq 39 x y xs ys (by kernel_rfl)

theorem nat_bne_f {a b : Nat} (h : a = b) : ((a : Int) != (b : Int)) = false := by rw [bne, beq_iff_eq.2 (by omega)]; rfl
theorem nat_bne_t {a b : Nat} (h : ¬ a = b) : ((a : Int) != (b : Int)) = true := by rw [bne, beq_eq_false_iff_ne.2 (by omega)]; rfl
theorem ext_upto {α : Type} {l m : List α} (hl : l.length = m.length) (h : ∀ j (h1 : j < l.length) (h2 : j < m.length), l[j] = m[j]) : l = m :=
  List.ext_getElem hl (fun j h1 h2 => h j h1 h2)
def Upto {α : Type} (l m : List α) (k : Nat) : Prop := ∀ j (h1 : j < l.length) (h2 : j < m.length), j < k → l[j] = m[j]
theorem Upto.zero {α : Type} (l m : List α) : Upto l m 0 := fun j _ _ h => absurd h (by omega)
theorem Upto.step {α : Type} {l m : List α} {k : Nat} (h : Upto l m k) (h1 : k < l.length) (h2 : k < m.length) (e : l[k] = m[k]) : Upto l m (k + 1) := by
  intro j h1' h2' hj
  by_cases e' : j = k
  · subst e'; exact e
  · exact h j h1' h2' (by omega)
theorem Upto.all {α : Type} {l m : List α} (h : Upto l m l.length) (hl : l.length = m.length) : l = m := ext_upto hl (fun j h1 h2 => h j h1 h2 h1)
theorem ne_at {α : Type} {l m : List α} {k : Nat} (h1 : k < l.length) (h2 : k < m.length) (e : ¬ l[k] = m[k]) : ¬ l = m := by
  rintro rfl; exact e rfl

set_option maxHeartbeats 800000 in
theorem equalTys (A A' : Option Addr) (l m : List Ty) (cap cap' : Nat) (w : World) (hr : RTys w w.heap.size A l) (hr' : RTys w w.heap.size A' m) :
    Calls Tryd.prog 61 #[.slice A l.length cap, .slice A' m.length cap'] w fun e w' => e = .returned (.bool (eqv l m)) ∧ Below w.heap.size w w' := by
  have hn := hr.1
  have hn' := hr'.1
  unfold maxLen at hn hn'
  have Hr := Lib.hid hr
  have Hr' := Lib.hid hr'
  clear hr hr'
  have gd := guardTy
  by_cases hl : l.length = m.length
  · have HL := Lib.hid hl
    have q2 := nat_bne_f hl
    clear hl
    go_enter Tryd.func61, Tryd.ntmps61
    go_wp2_with fail
    go_loopw [5, 13] (fun _ i wr => ∃ k : Nat, k ≤ l.length ∧ i = .int .i64 k ∧ Upto l m k ∧ Below w.heap.size w wr) (fun _ i _ => l.length - (intOf i).toNat)
    case atStart => exact ⟨0, by omega, rfl, Upto.zero _ _, Below.refl _ _⟩
    case round =>
      obtain ⟨k, hk, rfl, hu, hb⟩ := hrel
      by_cases hlt : k < l.length
      · have hlt' : k < m.length := by have := HL.out; omega
        obtain ⟨b, off, rfl, hbB, c0, c1⟩ := (Hr.out.below hb (Nat.le_refl _)).2 k hlt
        obtain ⟨b', off', rfl, hbB', c0', c1'⟩ := (Hr'.out.below hb (Nat.le_refl _)).2 k hlt'
        have hi : (k : Int) < (l.length : Int) := by omega
        have hi' : (k : Int) < (m.length : Int) := by omega
        by_cases he : l[k] = m[k]
        · have hq := neqTy_no l[k]
          have HE := Lib.hid he
          rw [← he] at c0' c1'
          clear he
          have hb2 : ∀ n, Below w.heap.size w (wr.drewN n) := fun n => below_drawn hb n
          go_wp2_with fail
          go_quiet (fail)
          go_wp2_with fail
          go_roundw
          case rel => exact ⟨k + 1, by omega, by go_num, hu.step hlt hlt' HE.out, hb2 _⟩
          case measure => simp [intOf]; omega
        · have hq := neqTy_yes l[k] m[k] he
          have HE := Lib.hid (ne_at hlt hlt' he)
          clear he
          have hb2 : ∀ n, Below w.heap.size w (wr.drewN n) := fun n => below_drawn hb n
          go_wp2_with fail
          go_quiet (fail)
          go_wp2_with fail
          go_ret
          exact ⟨ret_bool (eqv_f HE.out).symm, hb2 _⟩
      · go_wp2_with fail
        go_ret
        exact ⟨ret_bool (eqv_t (Upto.all (fun j h1 h2 _ => hu j h1 h2 (by omega)) HL.out)).symm, hb⟩
  · have HL := Lib.hid hl
    have q2 := nat_bne_t hl
    clear hl
    go_enter Tryd.func61, Tryd.ntmps61
    go_wp2_with fail
    go_ret
    exact ⟨ret_bool (eqv_f (fun e => HL.out (by rw [e]))).symm, Below.refl _ _⟩

theorem str_ne_f {a b : ByteArray} (h : a = b) : (a.toList != b.toList) = false := by rw [bne, str_eq_t h]; rfl
theorem str_ne_t {a b : ByteArray} (h : ¬ a = b) : (a.toList != b.toList) = true := by rw [bne, str_eq_f h]; rfl
theorem int_eq_f {a b : Int} (h : ¬ a = b) : (a == b) = false := beq_eq_false_iff_ne.2 h
theorem int_eq_t {a b : Int} (h : a = b) : (a == b) = true := beq_iff_eq.2 h
theorem int_ne_f {a b : Int} (h : a = b) : (a != b) = false := by rw [bne, int_eq_t h]; rfl
theorem int_ne_t {a b : Int} (h : ¬ a = b) : (a != b) = true := by rw [bne, int_eq_f h]; rfl
theorem ct_ne1 {c d : Ct} (h : ¬ c.name = d.name) : ¬ c = d := fun e => h (by rw [e])
theorem ct_ne2 {c d : Ct} (h : ¬ c.index = d.index) : ¬ c = d := fun e => h (by rw [e])
theorem ct_ne3 {c d : Ct} (h : ¬ c.args = d.args) : ¬ c = d := fun e => h (by rw [e])
theorem ct_eq {c d : Ct} (h1 : c.name = d.name) (h2 : c.index = d.index) (h3 : c.args = d.args) : c = d := by cases c; cases d; simp_all

theorem ctorSame_any (c d : Ct) (A A' : Option Addr) (cap cap' : Nat) (w : World) (hr : RTys w w.heap.size A c.args) (hr' : RTys w w.heap.size A' d.args) :
    Calls Tryd.prog 49 #[.agg #[.string c.name, .slice A c.args.length cap, .int .i64 c.index], .agg #[.string d.name, .slice A' d.args.length cap', .int .i64 d.index]] w fun e w' => e = .returned (.bool (eqv c d)) ∧ Below w.heap.size w w' := by
  have Hr := Lib.hid hr
  have Hr' := Lib.hid hr'
  clear hr hr'
  by_cases h1 : c.name = d.name
  · have s1 := str_eq_t h1
    have H1 := Lib.hid h1
    clear h1
    by_cases h2 : c.index = d.index
    · have s2 := int_eq_t h2
      have H2 := Lib.hid h2
      clear h2
      go_enter Tryd.func49, Tryd.ntmps49
      go_wp2_with (go_at_call 61; refine (equalTys _ _ _ _ _ _ _ (by exact Hr.out.keep (keep_two _ _) (by simp; omega)) (by exact Hr'.out.keep (keep_two _ _) (by simp; omega))).mono ?_; rintro e w1 ⟨rfl, hb⟩; obtain ⟨hc, hfz⟩ := bcell hb)
      go_ret
      refine ⟨ret_bool ?_, below_two hb⟩
      by_cases h3 : c.args = d.args
      · rw [eqv_t h3, eqv_t (ct_eq H1.out H2.out h3)]
      · rw [eqv_f h3, eqv_f (ct_ne3 h3)]
    · have s2 := int_eq_f h2
      have H2 := Lib.hid h2
      clear h2
      go_enter Tryd.func49, Tryd.ntmps49
      go_wp2_with fail
      go_ret
      exact ⟨ret_bool (eqv_f (ct_ne2 H2.out)).symm, ((Below.refl _ _).alloc (Nat.le_refl _) _).alloc (by simp) _⟩
  · have s1 := str_eq_f h1
    have H1 := Lib.hid h1
    clear h1
    go_enter Tryd.func49, Tryd.ntmps49
    go_wp2_with fail
    go_ret
    exact ⟨ret_bool (eqv_f (ct_ne1 H1.out)).symm, ((Below.refl _ _).alloc (Nat.le_refl _) _).alloc (by simp) _⟩

set_option maxHeartbeats 800000 in
theorem sameCtor_any (c d : Ct) (A A' : Option Addr) (cap cap' : Nat) (w : World) (hr : RTys w w.heap.size A c.args) (hr' : RTys w w.heap.size A' d.args) :
    Calls Tryd.prog 32 #[.agg #[.string c.name, .slice A c.args.length cap, .int .i64 c.index], .agg #[.string d.name, .slice A' d.args.length cap', .int .i64 d.index]] w fun e w' => e = .returned (.bool (eqv c d)) ∧ Below w.heap.size w w' := by
  have hn := hr.1
  have hn' := hr'.1
  unfold maxLen at hn hn'
  have Hr := Lib.hid hr
  have Hr' := Lib.hid hr'
  clear hr hr'
  have gd := guardTy
  have hB2 : ∀ o o' : Obj, Hid (Below w.heap.size w ((w.alloc o).alloc o')) := fun o o' => ((Below.refl _ _).alloc (Nat.le_refl _) _).alloc (by simp) _
  have HB := Lib.hid hB2
  clear hB2
  by_cases h1 : c.name = d.name
  · have s1 : c.name.toList = d.name.toList := by rw [h1]
    have H1 := Lib.hid h1
    clear h1
    by_cases h2 : c.index = d.index
    · have s2 := int_ne_f h2
      have H2 := Lib.hid h2
      by_cases hl : c.args.length = d.args.length
      · have HL := Lib.hid hl
        have q2 := nat_bne_f hl
        clear hl
        go_enter Tryd.func32, Tryd.ntmps32
        go_wp2_with fail
        go_loopw [5] (fun i wr => ∃ k : Nat, k ≤ c.args.length ∧ i = .int .i64 k ∧ Upto c.args d.args k ∧ wr.cell? ⟨w.heap.size, 1, none⟩ = some (.slice A c.args.length cap) ∧ wr.cell? ⟨w.heap.size + 1, 1, none⟩ = some (.slice A' d.args.length cap') ∧ Below w.heap.size w wr) (fun i _ => c.args.length - (intOf i).toNat)
        case atStart => exact ⟨0, by omega, rfl, Upto.zero _ _, by simp [World.cell?_alloc_new, World.cell?_alloc_lt], by simp [go_sem], (HB.out _ _).out⟩
        case round =>
          obtain ⟨k, hk, rfl, hu, b1, b2, hb⟩ := hrel
          by_cases hlt : k < c.args.length
          · have hlt' : k < d.args.length := by have := HL.out; omega
            obtain ⟨b, off, rfl, hbB, c0, c1⟩ := (Hr.out.below hb (Nat.le_refl _)).2 k hlt
            obtain ⟨b', off', rfl, hbB', c0', c1'⟩ := (Hr'.out.below hb (Nat.le_refl _)).2 k hlt'
            have hi : (k : Int) < (c.args.length : Int) := by omega
            have hi' : (k : Int) < (d.args.length : Int) := by omega
            have hb2 : ∀ n, Below w.heap.size w (wr.drewN n) := fun n => below_drawn hb n
            have HB2 := Lib.hid hb2
            clear hb2
            by_cases he : c.args[k] = d.args[k]
            · have hq := neqTy_no c.args[k]
              have HE := Lib.hid he
              rw [← he] at c0' c1'
              clear he
              go_wp2_with fail
              go_quiet (fail)
              go_wp2_with fail
              go_roundw
              case rel => exact ⟨k + 1, by omega, by go_num, hu.step hlt hlt' HE.out, b1, b2, HB2.out _⟩
              case measure => simp [intOf]; omega
            · have hq := neqTy_yes c.args[k] d.args[k] he
              have HE := Lib.hid (ne_at hlt hlt' he)
              clear he
              go_wp2_with fail
              go_quiet (fail)
              go_wp2_with fail
              go_ret
              exact ⟨ret_bool (eqv_f (ct_ne3 HE.out)).symm, HB2.out _⟩
          · go_wp2_with fail
            go_ret
            exact ⟨ret_bool (eqv_t (ct_eq H1.out H2.out (Upto.all (fun j h1 h2 _ => hu j h1 h2 (by omega)) HL.out))).symm, hb⟩
      · have HL := Lib.hid hl
        have q2 := nat_bne_t hl
        clear hl
        go_enter Tryd.func32, Tryd.ntmps32
        go_wp2_with fail
        go_ret
        exact ⟨ret_bool (eqv_f (ct_ne3 (fun e => HL.out (by rw [e])))).symm, (HB.out _ _).out⟩
    · have s2 := int_ne_t h2
      have H2 := Lib.hid h2
      go_enter Tryd.func32, Tryd.ntmps32
      go_wp2_with fail
      go_ret
      exact ⟨ret_bool (eqv_f (ct_ne2 H2.out)).symm, (HB.out _ _).out⟩
  · have s1 := str_ne_t h1
    have H1 := Lib.hid h1
    have s1' : ¬ c.name.toList = d.name.toList := fun e => h1 (toList_inj e)
    clear h1
    go_enter Tryd.func32, Tryd.ntmps32
    go_wp2_with fail
    go_ret
    exact ⟨ret_bool (eqv_f (ct_ne1 H1.out)).symm, (HB.out _ _).out⟩
end Go.Proofs.YthebdlejoficmabDoor
/-
  When two lists of data types are equal, on: the library's function at these types, and the whole of it. No statement is proved here.
-/
namespace Go.Proofs.YthebdlejoficmabDoor
open Go.RowKit Go.Sort
set_option maxRecDepth 100000
set_option linter.unusedVariables false

set_option maxHeartbeats 800000 in
theorem equalCts (A A' : Option Addr) (l m : List Ct) (cap cap' : Nat) (w : World) (hr : RCts w w.heap.size A l) (hr' : RCts w w.heap.size A' m) :
    Calls Tryd.prog 48 #[.slice A l.length cap, .slice A' m.length cap', .func (.func 49) #[] #[]] w fun e w' => e = .returned (.bool (eqv l m)) ∧ Below w.heap.size w w' := by
  have hn := hr.1
  have hn' := hr'.1
  unfold maxLen at hn hn'
  have Hr := Lib.hid hr
  have Hr' := Lib.hid hr'
  clear hr hr'
  by_cases hl : l.length = m.length
  · have HL := Lib.hid hl
    have q2 := nat_bne_f hl
    clear hl
    go_enter Tryd.func48, Tryd.ntmps48
    go_wp2_with fail
    go_loopw [17] (fun i wr => ∃ k : Nat, k ≤ l.length ∧ i = .int .i64 k ∧ Upto l m k ∧ Below w.heap.size w wr) (fun i _ => l.length - (intOf i).toNat)
    case atStart => exact ⟨0, by omega, rfl, Upto.zero _ _, Below.refl _ _⟩
    case round =>
      obtain ⟨k, hk, rfl, hu, hb⟩ := hrel
      by_cases hlt : k < l.length
      · have hlt' : k < m.length := by have := HL.out; omega
        obtain ⟨b, off, rfl, hbB, B1, cp, c0, c1, c2, _, hm⟩ := (Hr.out.below hb (Nat.le_refl _)).2 k hlt
        obtain ⟨b', off', rfl, hbB', B2, cp', c0', c1', c2', _, hm'⟩ := (Hr'.out.below hb (Nat.le_refl _)).2 k hlt'
        have Hm := Lib.hid hm
        have Hm' := Lib.hid hm'
        clear hm hm'
        have hi : (k : Int) < (l.length : Int) := by omega
        have hi' : (k : Int) < (m.length : Int) := by omega
        have hlw := hb.size
        have f0 : ∀ o, (wr.alloc o).cell? ⟨b', off' + k * 3, none⟩ = some (.string m[k].name) := fun o => (World.cell?_alloc_lt _ _ _ (by simp; omega)).trans c0'
        have f1 : ∀ o, (wr.alloc o).cell? ⟨b', off' + k * 3 + 1, none⟩ = some (.slice B2 m[k].args.length cp') := fun o => (World.cell?_alloc_lt _ _ _ (by simp; omega)).trans c1'
        have f2 : ∀ o, (wr.alloc o).cell? ⟨b', off' + k * 3 + 2, none⟩ = some (.int .i64 m[k].index) := fun o => (World.cell?_alloc_lt _ _ _ (by simp; omega)).trans c2'
        clear c0' c1' c2'
        by_cases he : l[k] = m[k]
        · have HE := Lib.hid he
          clear he
          go_wp2_with (go_at_call 49; refine (ctorSame_any l[k] m[k] _ _ _ _ _ (by exact Hm.out.keep (fun p hp => (keep_two _ _ p (by omega))) (by simp; omega)) (by exact Hm'.out.keep (fun p hp => (keep_two _ _ p (by omega))) (by simp; omega))).mono ?_; rw [eqv_t HE.out]; rintro e w1 ⟨rfl, hb1⟩; have hb2 := hb.trans ((below_two hb1).mono hb.size))
          go_roundw
          case rel => exact ⟨k + 1, by omega, by go_num, hu.step hlt hlt' HE.out, hb2⟩
          case measure => simp [intOf]; omega
        · have HN := Lib.hid he
          have HE := Lib.hid (ne_at hlt hlt' he)
          clear he
          go_wp2_with (go_at_call 49; refine (ctorSame_any l[k] m[k] _ _ _ _ _ (by exact Hm.out.keep (fun p hp => (keep_two _ _ p (by omega))) (by simp; omega)) (by exact Hm'.out.keep (fun p hp => (keep_two _ _ p (by omega))) (by simp; omega))).mono ?_; rw [eqv_f HN.out]; rintro e w1 ⟨rfl, hb1⟩; have hb2 := hb.trans ((below_two hb1).mono hb.size))
          go_ret
          exact ⟨ret_bool (eqv_f HE.out).symm, hb2⟩
      · go_wp2_with fail
        go_ret
        exact ⟨ret_bool (eqv_t (Upto.all (fun j h1 h2 _ => hu j h1 h2 (by omega)) HL.out)).symm, hb⟩
  · have HL := Lib.hid hl
    have q2 := nat_bne_t hl
    clear hl
    go_enter Tryd.func48, Tryd.ntmps48
    go_wp2_with fail
    go_ret
    exact ⟨ret_bool (eqv_f (fun e => HL.out (by rw [e]))).symm, Below.refl _ _⟩

theorem da_ne1 {c d : Da} (h : ¬ c.name = d.name) : ¬ c = d := fun e => h (by rw [e])
theorem da_ne2 {c d : Da} (h : ¬ c.ctors = d.ctors) : ¬ c = d := fun e => h (by rw [e])
theorem da_eq {c d : Da} (h1 : c.name = d.name) (h3 : c.ctors = d.ctors) : c = d := by cases c; cases d; simp_all

theorem dataSame_any (c d : Da) (A A' : Option Addr) (cap cap' : Nat) (w : World) (hr : RCts w w.heap.size A c.ctors) (hr' : RCts w w.heap.size A' d.ctors) :
    Calls Tryd.prog 31 #[.agg #[.string c.name, .slice A c.ctors.length cap], .agg #[.string d.name, .slice A' d.ctors.length cap']] w fun e w' => e = .returned (.bool (eqv c d)) ∧ Below w.heap.size w w' := by
  have Hr := Lib.hid hr
  have Hr' := Lib.hid hr'
  clear hr hr'
  by_cases h1 : c.name = d.name
  · have s1 := str_eq_t h1
    have H1 := Lib.hid h1
    clear h1
    go_enter Tryd.func31, Tryd.ntmps31
    go_wp2_with (go_at_call 48; refine (equalCts _ _ _ _ _ _ _ (by exact Hr.out.keep (keep_two _ _) (by simp; omega)) (by exact Hr'.out.keep (keep_two _ _) (by simp; omega))).mono ?_; rintro e w1 ⟨rfl, hb⟩; obtain ⟨hc, hfz⟩ := bcell hb)
    go_ret
    refine ⟨ret_bool ?_, below_two hb⟩
    by_cases h3 : c.ctors = d.ctors
    · rw [eqv_t h3, eqv_t (da_eq H1.out h3)]
    · rw [eqv_f h3, eqv_f (da_ne2 h3)]
  · have s1 := str_eq_f h1
    have H1 := Lib.hid h1
    clear h1
    go_enter Tryd.func31, Tryd.ntmps31
    go_wp2_with fail
    go_ret
    exact ⟨ret_bool (eqv_f (da_ne1 H1.out)).symm, ((Below.refl _ _).alloc (Nat.le_refl _) _).alloc (by simp) _⟩

set_option maxHeartbeats 800000 in
theorem equalDas (A A' : Option Addr) (l m : List Da) (cap cap' : Nat) (w : World) (hr : RDas w w.heap.size A l) (hr' : RDas w w.heap.size A' m) :
    Calls Tryd.prog 30 #[.slice A l.length cap, .slice A' m.length cap', .func (.func 31) #[] #[]] w fun e w' => e = .returned (.bool (eqv l m)) ∧ Below w.heap.size w w' := by
  have hn := hr.1
  have hn' := hr'.1
  unfold maxLen at hn hn'
  have Hr := Lib.hid hr
  have Hr' := Lib.hid hr'
  clear hr hr'
  by_cases hl : l.length = m.length
  · have HL := Lib.hid hl
    have q2 := nat_bne_f hl
    clear hl
    go_enter Tryd.func30, Tryd.ntmps30
    go_wp2_with fail
    go_loopw [17] (fun i wr => ∃ k : Nat, k ≤ l.length ∧ i = .int .i64 k ∧ Upto l m k ∧ Below w.heap.size w wr) (fun i _ => l.length - (intOf i).toNat)
    case atStart => exact ⟨0, by omega, rfl, Upto.zero _ _, Below.refl _ _⟩
    case round =>
      obtain ⟨k, hk, rfl, hu, hb⟩ := hrel
      by_cases hlt : k < l.length
      · have hlt' : k < m.length := by have := HL.out; omega
        obtain ⟨b, off, rfl, hbB, B1, cp, c0, c1, _, hm⟩ := (Hr.out.below hb (Nat.le_refl _)).2 k hlt
        obtain ⟨b', off', rfl, hbB', B2, cp', c0', c1', _, hm'⟩ := (Hr'.out.below hb (Nat.le_refl _)).2 k hlt'
        have Hm := Lib.hid hm
        have Hm' := Lib.hid hm'
        clear hm hm'
        have hi : (k : Int) < (l.length : Int) := by omega
        have hi' : (k : Int) < (m.length : Int) := by omega
        have hlw := hb.size
        have f0 : ∀ o, (wr.alloc o).cell? ⟨b', off' + k * 2, none⟩ = some (.string m[k].name) := fun o => (World.cell?_alloc_lt _ _ _ (by simp; omega)).trans c0'
        have f1 : ∀ o, (wr.alloc o).cell? ⟨b', off' + k * 2 + 1, none⟩ = some (.slice B2 m[k].ctors.length cp') := fun o => (World.cell?_alloc_lt _ _ _ (by simp; omega)).trans c1'
        clear c0' c1'
        by_cases he : l[k] = m[k]
        · have HE := Lib.hid he
          clear he
          go_wp2_with (go_at_call 31; refine (dataSame_any l[k] m[k] _ _ _ _ _ (by exact Hm.out.keep (fun p hp => (keep_two _ _ p (by omega))) (by simp; omega)) (by exact Hm'.out.keep (fun p hp => (keep_two _ _ p (by omega))) (by simp; omega))).mono ?_; rw [eqv_t HE.out]; rintro e w1 ⟨rfl, hb1⟩; have hb2 := hb.trans ((below_two hb1).mono hb.size))
          go_roundw
          case rel => exact ⟨k + 1, by omega, by go_num, hu.step hlt hlt' HE.out, hb2⟩
          case measure => simp [intOf]; omega
        · have HN := Lib.hid he
          have HE := Lib.hid (ne_at hlt hlt' he)
          clear he
          go_wp2_with (go_at_call 31; refine (dataSame_any l[k] m[k] _ _ _ _ _ (by exact Hm.out.keep (fun p hp => (keep_two _ _ p (by omega))) (by simp; omega)) (by exact Hm'.out.keep (fun p hp => (keep_two _ _ p (by omega))) (by simp; omega))).mono ?_; rw [eqv_f HN.out]; rintro e w1 ⟨rfl, hb1⟩; have hb2 := hb.trans ((below_two hb1).mono hb.size))
          go_ret
          exact ⟨ret_bool (eqv_f HE.out).symm, hb2⟩
      · go_wp2_with fail
        go_ret
        exact ⟨ret_bool (eqv_t (Upto.all (fun j h1 h2 _ => hu j h1 h2 (by omega)) HL.out)).symm, hb⟩
  · have HL := Lib.hid hl
    have q2 := nat_bne_t hl
    clear hl
    go_enter Tryd.func30, Tryd.ntmps30
    go_wp2_with fail
    go_ret
    exact ⟨ret_bool (eqv_f (fun e => HL.out (by rw [e]))).symm, Below.refl _ _⟩

theorem worldSame_impl (A A' : Option Addr) (l m : List Da) (cap cap' : Nat) (w : World) (hr : RDas w w.heap.size A l) (hr' : RDas w w.heap.size A' m) :
    Calls Tryd.prog 12 #[.slice A l.length cap, .slice A' m.length cap'] w fun e w' => e = .returned (.bool (eqv l m)) ∧ Below w.heap.size w w' := by
  have Hr := Lib.hid hr
  have Hr' := Lib.hid hr'
  clear hr hr'
  go_enter Tryd.func12, Tryd.ntmps12
  go_wp2_with (go_at_call 30; refine (equalDas _ _ _ _ _ _ _ Hr.out Hr'.out).mono ?_; rintro e w1 ⟨rfl, hb⟩)
  go_ret
  exact ⟨rfl, hb⟩

end Go.Proofs.YthebdlejoficmabDoor
/-
  When two lists of data types are equal: the document's function. No statement is proved here.
-/
namespace Go.Proofs.YthebdlejoficmabDoor
open Go.RowKit Go.Sort
set_option maxRecDepth 100000
set_option linter.unusedVariables false

set_option maxHeartbeats 1600000 in
theorem worldSame_spec (A A' : Option Addr) (l m : List Da) (cap cap' : Nat) (w : World) (hr : RDas w w.heap.size A l) (hr' : RDas w w.heap.size A' m) :
    Calls Tryd.prog 13 #[.slice A l.length cap, .slice A' m.length cap'] w fun e w' => e = .returned (.bool (eqv l m)) ∧ Below w.heap.size w w' := by
  have hn := hr.1
  have hn' := hr'.1
  unfold maxLen at hn hn'
  have Hr := Lib.hid hr
  have Hr' := Lib.hid hr'
  clear hr hr'
  by_cases hl : l.length = m.length
  · have HL := Lib.hid hl
    have q2 := nat_bne_f hl
    clear hl
    go_enter Tryd.func13, Tryd.ntmps13
    go_wp2_with fail
    go_loopw [5] (fun i wr => ∃ k : Nat, k ≤ l.length ∧ i = .int .i64 k ∧ Upto l m k ∧ Below w.heap.size w wr) (fun i _ => l.length - (intOf i).toNat)
    case atStart => exact ⟨0, by omega, rfl, Upto.zero _ _, Below.refl _ _⟩
    case round =>
      obtain ⟨k, hk, rfl, hu, hb⟩ := hrel
      by_cases hlt : k < l.length
      · have hlt' : k < m.length := by have := HL.out; omega
        have hr1 := Hr.out.below hb (Nat.le_refl _)
        have hr2 := Hr'.out.below hb (Nat.le_refl _)
        obtain ⟨b, off, rfl, hbB, B1, cp, c0, c1, _, hm⟩ := hr1.2 k hlt
        obtain ⟨b', off', rfl, hbB', B2, cp', c0', c1', _, hm'⟩ := hr2.2 k hlt'
        clear hr1 hr2
        have hnl := hm.1
        have hnl' := hm'.1
        unfold maxLen at hnl hnl'
        have Hm := Lib.hid (hm.keep (w' := w) (fun p hp => (hb.cell hp).symm) (Nat.le_refl _))
        have Hm' := Lib.hid (hm'.keep (w' := w) (fun p hp => (hb.cell hp).symm) (Nat.le_refl _))
        clear hm hm'
        have hi : (k : Int) < (l.length : Int) := by omega
        have hi' : (k : Int) < (m.length : Int) := by omega
        have HB2 : Hid (∀ n, Below w.heap.size w (wr.drewN n)) := fun n => below_drawn hb n
        have HC := Lib.hid ((hb.cell (p := ⟨b, off + k * 2 + 1, none⟩) hbB).symm.trans c1)
        have HC' := Lib.hid ((hb.cell (p := ⟨b', off' + k * 2 + 1, none⟩) hbB').symm.trans c1')
        by_cases h1 : l[k].name = m[k].name
        · rw [← h1] at c0'
          have H1 := Lib.hid h1
          clear h1
          by_cases h2 : l[k].ctors.length = m[k].ctors.length
          · rw [← h2] at c1'
            have HL2 := Lib.hid h2
            clear h2
            go_wp2_with fail
            go_quiet (fail)
            go_wp2_with fail
            go_loopw [6] (fun i wi => ∃ j : Nat, j ≤ l[k].ctors.length ∧ i = .int .i64 j ∧ Upto l[k].ctors m[k].ctors j ∧ Below w.heap.size w wi) (fun i _ => l[k].ctors.length - (intOf i).toNat)
            case atStart => exact ⟨0, by omega, rfl, Upto.zero _ _, HB2.out _⟩
            case round =>
              obtain ⟨j, hj, rfl, hu2, hbi⟩ := hrel
              clear c0 c1 c0' c1' HB2 hb
              have c1 := (hbi.cell (p := ⟨b, off + k * 2 + 1, none⟩) hbB).trans HC.out
              have c1' := (hbi.cell (p := ⟨b', off' + k * 2 + 1, none⟩) hbB').trans HC'.out
              by_cases hjt : j < l[k].ctors.length
              · have hjt' : j < m[k].ctors.length := by have := HL2.out; omega
                obtain ⟨g, o, rfl, hgB, D1, ep, e0, e1, e2, _, hn1⟩ := (Hm.out.below hbi (Nat.le_refl _)).2 j hjt
                obtain ⟨g', o', rfl, hgB', D2, ep', e0', e1', e2', _, hn2⟩ := (Hm'.out.below hbi (Nat.le_refl _)).2 j hjt'
                have Hn1 := Lib.hid hn1
                have Hn2 := Lib.hid hn2
                clear hn1 hn2
                have hj1 : (j : Int) < (l[k].ctors.length : Int) := by omega
                have hj2 : (j : Int) < (m[k].ctors.length : Int) := by omega
                have d1 := cell_regrown c1
                have d1' := cell_regrown c1'
                have f0 := cell_regrown e0
                have f1 := cell_regrown e1
                have f2 := cell_regrown e2
                have f0' := cell_regrown e0'
                have f1' := cell_regrown e1'
                have f2' := cell_regrown e2'
                have HK1 : Hid (∀ d os, RTys (grow (redrawn wr d) os) (grow (redrawn wr d) os).heap.size D1 l[k].ctors[j].args) := fun d os => Hn1.out.keep (fun p hp => (below_regrown wr d os).cell (Nat.lt_of_lt_of_le hp hbi.size)) (Nat.le_trans hbi.size (below_regrown wr d os).size)
                have HK2 : Hid (∀ d os, RTys (grow (redrawn wr d) os) (grow (redrawn wr d) os).heap.size D2 m[k].ctors[j].args) := fun d os => Hn2.out.keep (fun p hp => (below_regrown wr d os).cell (Nat.lt_of_lt_of_le hp hbi.size)) (Nat.le_trans hbi.size (below_regrown wr d os).size)
                by_cases he : l[k].ctors[j] = m[k].ctors[j]
                · have HE := Lib.hid he
                  have hq := eqv_t he
                  clear he
                  go_wp2_with fail
                  clear c1 c1' e0 e1 e2 e0' e1' e2'
                  refine wp_region_quiet_below (by kernel_rfl) (by kernel_rfl) ?_
                  repeat (quiet_step (exact Calls.regrown_of (sameCtor_any l[k].ctors[j] m[k].ctors[j] _ _ _ _ _ (HK1.out _ _) (HK2.out _ _))))
                  refine wpQuiet_nil ?_
                  intro _ hw'
                  obtain ⟨⟨dq, osq⟩, hw''⟩ := hw'
                  subst hw''
                  have hb2 := hbi.trans ((below_regrown wr dq osq).mono hbi.size)
                  clear d1 d1' f0 f1 f2 f0' f1' f2'
                  go_wp2_with fail
                  go_roundw
                  case rel => exact ⟨j + 1, by omega, by go_num, hu2.step hjt hjt' HE.out, hb2⟩
                  case measure => simp [intOf]; omega
                · have HE := Lib.hid (ne_at hlt hlt' (da_ne2 (c := l[k]) (d := m[k]) (ne_at hjt hjt' he)))
                  have hq := eqv_f he
                  clear he
                  go_wp2_with fail
                  clear c1 c1' e0 e1 e2 e0' e1' e2'
                  refine wp_region_quiet_below (by kernel_rfl) (by kernel_rfl) ?_
                  repeat (quiet_step (exact Calls.regrown_of (sameCtor_any l[k].ctors[j] m[k].ctors[j] _ _ _ _ _ (HK1.out _ _) (HK2.out _ _))))
                  refine wpQuiet_nil ?_
                  intro _ hw'
                  obtain ⟨⟨dq, osq⟩, hw''⟩ := hw'
                  subst hw''
                  have hb2 := hbi.trans ((below_regrown wr dq osq).mono hbi.size)
                  clear d1 d1' f0 f1 f2 f0' f1' f2'
                  go_wp2_with fail
                  go_ret
                  exact ⟨ret_bool (eqv_f HE.out).symm, hb2⟩
              · go_wp2_with fail
                go_roundw
                case rel => exact ⟨k + 1, by omega, by go_num, hu.step hlt hlt' (da_eq H1.out (Upto.all (fun j h1 h2 _ => hu2 j h1 h2 (by omega)) HL2.out)), hbi⟩
                case measure => simp [intOf]; omega
          · have HE := Lib.hid (ne_at hlt hlt' (da_ne2 (c := l[k]) (d := m[k]) (fun e => h2 (by rw [e]))))
            have q3 := nat_bne_t h2
            have q3' : ¬ (l[k].ctors.length : Int) = (m[k].ctors.length : Int) := by omega
            clear h2
            go_wp2_with fail
            go_quiet (fail)
            go_wp2_with fail
            go_ret
            exact ⟨ret_bool (eqv_f HE.out).symm, HB2.out _⟩
        · have s1 := str_ne_t h1
          have s1' : ¬ l[k].name.toList = m[k].name.toList := fun e => h1 (toList_inj e)
          have HE := Lib.hid (ne_at hlt hlt' (da_ne1 h1))
          clear h1
          go_wp2_with fail
          go_quiet (fail)
          go_wp2_with fail
          go_ret
          exact ⟨ret_bool (eqv_f HE.out).symm, HB2.out _⟩
      · go_wp2_with fail
        go_ret
        exact ⟨ret_bool (eqv_t (Upto.all (fun j h1 h2 _ => hu j h1 h2 (by omega)) HL.out)).symm, hb⟩
  · have HL := Lib.hid hl
    have q2 := nat_bne_t hl
    clear hl
    go_enter Tryd.func13, Tryd.ntmps13
    go_wp2_with fail
    go_ret
    exact ⟨ret_bool (eqv_f (fun e => HL.out (by rw [e]))).symm, Below.refl _ _⟩
end Go.Proofs.YthebdlejoficmabDoor
