/-
  The functions that count how much values hold. No statement is proved here.
-/
import Derived.Test.YtphmhlekfmkdkaaG00
import Derived.Test.YtphmhlekfmkdkaaG02
import Derived.Test.YtphmhlekfmkdkaaG10
import Derived.Test.YtphmhlekfmkdkaaK00
namespace Go.Proofs.Ytphmhlekfmkdkaa
open Go.RowKit
set_option maxRecDepth 100000
set_option linter.unusedVariables false

def SzS (d : Nat) : Prop := ∀ (A : Option Addr) (l : List Vl) (cap : Nat) (q : Int) (w : World), RVs d w w.heap.size A l → 0 ≤ q → q ≤ 1048576 →
  Calls Try.prog 105 #[.slice A l.length cap, .int .i64 q] w fun e w' => e = .returned (.int .i64 (left q (wVs l))) ∧ Below w.heap.size w w'

theorem szV_of {d : Nat} (ih : SzS d) (A : Option Addr) (l : List Vl) (cap : Nat) (c n q : Int) (w : World) (hr : RVs d w w.heap.size A l) (h0 : 0 ≤ q) (h1 : q ≤ 1048576) :
    Calls Try.prog 81 #[.agg #[.int .i64 c, .int .i64 n, .slice A l.length cap], .int .i64 q] w fun e w' => e = .returned (.int .i64 (left q (wVs l))) ∧ Below w.heap.size w w' := by
  have Hr := Lib.hid hr
  have IH := Lib.hid ih
  clear hr ih
  by_cases hc2 : (wVs l : Int) ≤ q
  · have H2 := Lib.hid (left_ok hc2)
    go_enter Try.func81, Try.ntmps81
    go_wp2_with (go_at_call 105; refine (IH.out _ _ _ _ _ (by exact Hr.out.keep (fun p hp => World.cell?_alloc_lt _ _ _ hp) (by simp)) h0 h1).mono ?_; rw [H2.out]; rintro e w' ⟨rfl, hb⟩)
    go_ret
    exact ⟨ret_i64 (by rw [H2.out]), ((Below.refl _ _).alloc (Nat.le_refl _) _).trans (hb.mono (by simp))⟩
  · have H2 := Lib.hid (left_no hc2)
    go_enter Try.func81, Try.ntmps81
    go_wp2_with (go_at_call 105; refine (IH.out _ _ _ _ _ (by exact Hr.out.keep (fun p hp => World.cell?_alloc_lt _ _ _ hp) (by simp)) h0 h1).mono ?_; rw [H2.out]; rintro e w' ⟨rfl, hb⟩)
    go_ret
    exact ⟨ret_i64 (by rw [H2.out]), ((Below.refl _ _).alloc (Nat.le_refl _) _).trans (hb.mono (by simp))⟩

set_option maxHeartbeats 400000 in
theorem szS_of (d : Nat) (ih : ∀ d', d = d' + 1 → SzS d') : SzS d := by
  intro A l cap q0 w hr h0 h1
  have hn := hr.1
  unfold maxLen at hn
  have Hr := Lib.hid hr
  have IH := Lib.hid ih
  have HSum := Lib.hid (wVs_sum l)
  clear hr ih
  by_cases hc : (l.length : Int) ≤ q0
  · go_enter Try.func105, Try.ntmps105
    go_wp2_with fail
    go_loopw [1, 5] (fun t i wr => ∃ k : Nat, k ≤ l.length ∧ i = .int .i64 k ∧ ∃ q : Int, 0 ≤ q ∧ q ≤ 1048576 ∧ t = .int .i64 q ∧ Hid (q = q0 - (l.length + ((l.take k).map wV).sum : Nat)) ∧ Below w.heap.size w wr) (fun _ i _ => l.length - (intOf i).toNat)
    case atStart => exact ⟨0, by omega, rfl, _, by omega, by omega, rfl, by unfold Hid; simp, Below.refl _ _⟩
    case round =>
      obtain ⟨k, hk, rfl, q, hq0, hq1, rfl, HQ, hb⟩ := hrel
      by_cases hlt : k < l.length
      · obtain ⟨b, off, rfl, hbB, hv⟩ := (Hr.out.below hb (Nat.le_refl _)).2 k hlt
        obtain ⟨d', hd, A', cp, c0, c1, c2, hm⟩ := hv.parts
        have HS := Lib.hid (sum_take_succ wV l k hlt)
        have HL := Lib.hid (sum_take_le wV l (k + 1))
        have HW := Lib.hid (wV_kids l[k])
        have Hm := Lib.hid (hm.keep (fun _ _ => rfl) hb.size)
        have IHd := Lib.hid (IH.out d' hd)
        clear hm hv hd
        by_cases hc2 : (wVs l[k].kids : Int) ≤ q
        · have H2 := Lib.hid (left_ok hc2)
          go_wp2_with (go_at_call 81; refine (szV_of IHd.out _ _ _ _ _ _ _ Hm.out (by omega) (by omega)).mono ?_; rw [H2.out]; rintro e w' ⟨rfl, hb'⟩)
          have hb2 := hb.trans (hb'.mono hb.size)
          go_roundw
          case rel => exact ⟨k + 1, by omega, by go_num, _, by omega, by omega, rfl, by unfold Hid; rw [HS.out, HW.out, HQ.out]; omega, hb2⟩
          case measure => simp [intOf]; omega
        · have H2 := Lib.hid (left_no hc2)
          have H := Lib.hid (left_no (l := q0) (n := wVs l) (by rw [HSum.out]; rw [HQ.out] at hc2; rw [HS.out, HW.out] at HL; have := HL.out; omega))
          go_wp2_with (go_at_call 81; refine (szV_of IHd.out _ _ _ _ _ _ _ Hm.out (by omega) (by omega)).mono ?_; rw [H2.out]; rintro e w' ⟨rfl, hb'⟩)
          have hb2 := hb.trans (hb'.mono hb.size)
          go_ret
          exact ⟨ret_i64 (by rw [H.out]), hb2⟩
      · go_wp2_with fail
        go_ret
        refine ⟨ret_i64 ?_, hb⟩
        have h2 := HQ.out
        rw [List.take_of_length_le (by omega), ← HSum.out] at h2
        rw [left_ok (by omega)]
        exact h2
  · have H := Lib.hid (left_no (l := q0) (n := wVs l) (by rw [HSum.out]; omega))
    go_enter Try.func105, Try.ntmps105
    go_wp2_with fail
    go_ret
    exact ⟨ret_i64 (by rw [H.out]), Below.refl _ _⟩
theorem szS_any : ∀ d, SzS d
  | 0 => szS_of 0 (fun _ h => by omega)
  | d + 1 => szS_of (d + 1) (fun d' h => (Nat.succ.inj h) ▸ szS_any d)
theorem szV_any (d : Nat) (A : Option Addr) (l : List Vl) (cap : Nat) (c n q : Int) (w : World) (hr : RVs d w w.heap.size A l) (h0 : 0 ≤ q) (h1 : q ≤ 1048576) :
    Calls Try.prog 81 #[.agg #[.int .i64 c, .int .i64 n, .slice A l.length cap], .int .i64 q] w fun e w' => e = .returned (.int .i64 (left q (wVs l))) ∧ Below w.heap.size w w' := szV_of (szS_any d) A l cap c n q w hr h0 h1
end Go.Proofs.Ytphmhlekfmkdkaa
/-
  Vl trees in blocks of their own: no part has a block of another part. No statement is proved here.
-/
namespace Go.Proofs.Ytphmhlekfmkdkaa
open Go.RowKit
set_option maxRecDepth 100000
set_option linter.unusedVariables false

/-- Trees in blocks of P; no part has a block of another part. -/
def OVs : Nat → World → (Nat → Prop) → Option Addr → List Vl → Prop
  | 0, _, _, _, _ => False
  | d + 1, w, P, A, l => l.length ≤ maxLen ∧ (0 < l.length → ∃ (g : Nat) (cs : Array Value) (Q : Nat → Nat → Prop), A = some ⟨g, 0, none⟩ ∧ P g ∧ w.heap[g]? = some (.cells cs 106 (0, 0)) ∧ (∀ k b, k < l.length → Q k b → P b ∧ b ≠ g ∧ ∀ j, j < l.length → j ≠ k → ¬ Q j b) ∧ ∀ k (h : k < l.length), ∃ A' cap, cs[k * 3]? = some (.int .i64 l[k].ctor) ∧ cs[k * 3 + 1]? = some (.int .i64 l[k].n) ∧ cs[k * 3 + 2]? = some (.slice A' l[k].kids.length cap) ∧ OVs d w (Q k) A' l[k].kids)
def OVp (d : Nat) (w : World) (P : Nat → Prop) (g : Nat) (cs : Array Value) (Q : Nat → Nat → Prop) (l : List Vl) : Prop := P g ∧ w.heap[g]? = some (.cells cs 106 (0, 0)) ∧ (∀ k b, k < l.length → Q k b → P b ∧ b ≠ g ∧ ∀ j, j < l.length → j ≠ k → ¬ Q j b) ∧ ∀ k (h : k < l.length), ∃ A' cap, cs[k * 3]? = some (.int .i64 l[k].ctor) ∧ cs[k * 3 + 1]? = some (.int .i64 l[k].n) ∧ cs[k * 3 + 2]? = some (.slice A' l[k].kids.length cap) ∧ OVs d w (Q k) A' l[k].kids
theorem OVs.parts {d : Nat} {w : World} {P : Nat → Prop} {A : Option Addr} {l : List Vl} (h : OVs d w P A l) : ∃ d', d = d' + 1 ∧ l.length ≤ maxLen ∧ (0 < l.length → ∃ g cs Q, A = some ⟨g, 0, none⟩ ∧ OVp d' w P g cs Q l) := by
  cases d with
  | zero => exact h.elim
  | succ d => exact ⟨d, rfl, h⟩
theorem OVs.mk {d : Nat} {w : World} {P : Nat → Prop} {A : Option Addr} {l : List Vl} (hl : l.length ≤ maxLen) (h : 0 < l.length → ∃ g cs Q, A = some ⟨g, 0, none⟩ ∧ OVp d w P g cs Q l) : OVs (d + 1) w P A l := ⟨hl, h⟩
theorem OVs.nil (d : Nat) (w : World) (P : Nat → Prop) (A : Option Addr) : OVs (d + 1) w P A [] := ⟨Nat.zero_le _, fun h => absurd h (Nat.not_lt_zero _)⟩
theorem OVs.wide : ∀ (d : Nat) {w : World} {P P' : Nat → Prop} {A : Option Addr} {l : List Vl}, OVs d w P A l → (∀ b, P b → P' b) → OVs d w P' A l
  | 0, _, _, _, _, _, h, _ => h.elim
  | d + 1, _, _, _, _, _, ⟨h1, h2⟩, hp => ⟨h1, fun hl => by
    obtain ⟨g, cs, Q, e, hg, hh, hq, hc⟩ := h2 hl
    exact ⟨g, cs, Q, e, hp g hg, hh, fun k b hk hb => ⟨hp b (hq k b hk hb).1, (hq k b hk hb).2⟩, hc⟩⟩
theorem OVs.fr : ∀ (d : Nat) {w w' : World} {P P' : Nat → Prop} {A : Option Addr} {l : List Vl}, OVs d w P A l → Fr P' w w' → (∀ b, P b → ¬ P' b) → OVs d w' P A l
  | 0, _, _, _, _, _, _, h, _, _ => h.elim
  | d + 1, _, _, _, _, _, _, ⟨h1, h2⟩, hf, hp => ⟨h1, fun hl => by
    obtain ⟨g, cs, Q, e, hg, hh, hq, hc⟩ := h2 hl
    refine ⟨g, cs, Q, e, hg, hf.block hh (hp g hg), hq, fun k hk => ?_⟩
    obtain ⟨A', cap, e0, e1, e8, e9⟩ := hc k hk
    exact ⟨A', cap, e0, e1, e8, OVs.fr d e9 hf (fun b hb => hp b (hq k b hk hb).1)⟩⟩
theorem OVs.up : ∀ (d : Nat) {w : World} {P : Nat → Prop} {A : Option Addr} {l : List Vl}, OVs d w P A l → OVs (d + 1) w P A l
  | 0, _, _, _, _, h => h.elim
  | d + 1, _, _, _, _, ⟨h1, h2⟩ => ⟨h1, fun hl => by
    obtain ⟨g, cs, Q, e, hg, hh, hq, hc⟩ := h2 hl
    refine ⟨g, cs, Q, e, hg, hh, hq, fun k hk => ?_⟩
    obtain ⟨A', cap, e0, e1, e8, e9⟩ := hc k hk
    exact ⟨A', cap, e0, e1, e8, OVs.up d e9⟩⟩
theorem OVs.more {d d' : Nat} {w : World} {P : Nat → Prop} {A : Option Addr} {l : List Vl} (h : OVs d w P A l) (hd : d ≤ d') : OVs d' w P A l := by
  obtain ⟨e, rfl⟩ := Nat.exists_eq_add_of_le hd
  clear hd
  induction e with
  | zero => exact h
  | succ e ih => exact OVs.up _ ih
theorem OVs.reads : ∀ (d : Nat) {w : World} {P : Nat → Prop} {A : Option Addr} {l : List Vl}, OVs (d + 1) w P A l → RVs d w w.heap.size A l
  | d, w, P, A, l, ⟨h1, h2⟩ => ⟨h1, fun k hk => by
    obtain ⟨g, cs, Q, e, hg, hh, hq, hc⟩ := h2 (by omega)
    obtain ⟨A', cap, e0, e1, e8, e9⟩ := hc k hk
    refine ⟨g, 0, e, heap_lt hh, ?_⟩
    cases d with
    | zero => exact e9.elim
    | succ d =>
      obtain ⟨q1, q2⟩ := OVs.reads d e9
      exact ⟨A', cap, by rw [cell_of_blk hh, Nat.zero_add]; exact e0, by rw [cell_of_blk hh, Nat.zero_add]; exact e1, by rw [cell_of_blk hh, Nat.zero_add]; exact e8, q1, q2⟩⟩

/-- The row of a list while it is made: k parts are there, each with blocks of its own, from lo on. -/
def RowV (d : Nat) (w : World) (lo : Nat) (og : Option Nat) (Q : Nat → Nat → Prop) (l : List Vl) (xs : List Value) (k : Nat) : Prop := ∀ j (h : j < l.length), j < k → (∀ b, Q j b → lo ≤ b ∧ b < w.heap.size ∧ some b ≠ og ∧ ∀ i, i < k → i ≠ j → ¬ Q i b) ∧ ∃ A' cap, xs[j * 3]? = some (.int .i64 l[j].ctor) ∧ xs[j * 3 + 1]? = some (.int .i64 l[j].n) ∧ xs[j * 3 + 2]? = some (.slice A' l[j].kids.length cap) ∧ OVs d w (Q j) A' l[j].kids
theorem RowV.zero (d : Nat) (w : World) (lo : Nat) (og : Option Nat) (Q : Nat → Nat → Prop) (l : List Vl) (xs : List Value) : RowV d w lo og Q l xs 0 := fun j _ h => absurd h (by omega)
theorem RowV.fr {d : Nat} {w w' : World} {lo : Nat} {og : Option Nat} {Q : Nat → Nat → Prop} {l : List Vl} {xs : List Value} {k : Nat} {P' : Nat → Prop} (h : RowV d w lo og Q l xs k) (hf : Fr P' w w') (hp : ∀ b, lo ≤ b → some b ≠ og → b < w.heap.size → ¬ P' b) : RowV d w' lo og Q l xs k := fun j hj hjk => by
  obtain ⟨h1, A', cap, e0, e1, e8, e9⟩ := h j hj hjk
  refine ⟨fun b hb => ?_, A', cap, e0, e1, e8, e9.fr d hf (fun b hb => ?_)⟩
  · obtain ⟨a1, a2, a3, a4⟩ := h1 b hb
    exact ⟨a1, Nat.lt_of_lt_of_le a2 hf.size, a3, a4⟩
  · obtain ⟨a1, a2, a3, a4⟩ := h1 b hb
    exact hp b a1 a3 a2
theorem RowV.og {d : Nat} {w : World} {lo : Nat} {og og' : Option Nat} {Q : Nat → Nat → Prop} {l : List Vl} {xs : List Value} {k : Nat} (h : RowV d w lo og Q l xs k) (hp : ∀ b, lo ≤ b → some b ≠ og → b < w.heap.size → some b ≠ og') : RowV d w lo og' Q l xs k := fun j hj hjk => by
  obtain ⟨h1, h2⟩ := h j hj hjk
  exact ⟨fun b hb => by obtain ⟨a1, a2, a3, a4⟩ := h1 b hb; exact ⟨a1, a2, hp b a1 a3 a2, a4⟩, h2⟩
/-- One part more: its blocks are new. -/
theorem RowV.more {d : Nat} {w w' : World} {lo : Nat} {og : Option Nat} {Q : Nat → Nat → Prop} {l : List Vl} {xs xs' : List Value} {k cap : Nat} {A' : Option Addr} (h : RowV d w lo og Q l xs k) (hb : Below w.heap.size w w') (hk : k < l.length) (hlo : lo ≤ w.heap.size) (hog : ∀ g, og = some g → g < w.heap.size)
    (ho : OVs d w' (Nw w w') A' l[k].kids) (hx : ∀ j c, j < k → c < 3 → xs'[j * 3 + c]? = xs[j * 3 + c]?) (e0 : xs'[k * 3]? = some (.int .i64 l[k].ctor)) (e1 : xs'[k * 3 + 1]? = some (.int .i64 l[k].n)) (e8 : xs'[k * 3 + 2]? = some (.slice A' l[k].kids.length cap)) :
    RowV d w' lo og (fun i => if i = k then Nw w w' else Q i) l xs' (k + 1) := by
  have h' := h.fr (P' := fun _ => False) (Fr.below hb) (fun _ _ _ _ h => h)
  intro j hj hjk
  by_cases e : j = k
  · subst e
    refine ⟨fun b hq => ?_, A', cap, e0, e1, e8, ?_⟩
    · replace hq : (if j = j then Nw w w' else Q j) b := hq
      rw [if_pos rfl] at hq
      refine ⟨Nat.le_trans hlo hq.1, hq.2, fun e => ?_, fun i hi hij hqi => ?_⟩
      · have := hog b e.symm; have := hq.1; omega
      · replace hqi : (if i = j then Nw w w' else Q i) b := hqi
        rw [if_neg hij] at hqi
        have := ((h i (by omega) (by omega)).1 b hqi).2.1
        have := hq.1
        omega
    · show OVs d w' (if j = j then Nw w w' else Q j) A' l[j].kids
      rw [if_pos rfl]; exact ho
  · obtain ⟨h1, A2, c2, f0, f1, f8, f9⟩ := h' j hj (by omega)
    refine ⟨fun b hq => ?_, A2, c2, (hx j 0 (by omega) (by omega)).trans f0, (hx j 1 (by omega) (by omega)).trans f1, (hx j 2 (by omega) (by omega)).trans f8, ?_⟩
    · replace hq : (if j = k then Nw w w' else Q j) b := hq
      rw [if_neg e] at hq
      obtain ⟨a1, a2, a3, a4⟩ := h1 b hq
      refine ⟨a1, a2, a3, fun i hi hij hqi => ?_⟩
      replace hqi : (if i = k then Nw w w' else Q i) b := hqi
      by_cases e2 : i = k
      · rw [if_pos e2] at hqi
        have := ((h j hj (by omega)).1 b hq).2.1
        have := hqi.1
        omega
      · rw [if_neg e2] at hqi
        exact a4 i (by omega) hij hqi
    · show OVs d w' (if j = k then Nw w w' else Q j) A2 l[j].kids
      rw [if_neg e]; exact f9
theorem OVs.of_row {d : Nat} {w : World} {lo : Nat} {v : Value} {l : List Vl} {xs : List Value} {Q : Nat → Nat → Prop} (h : w.ownsRow lo 106 3 v l.length xs) (hx : RowV d w lo v.ownBlock Q l xs l.length) (hn : l.length ≤ 1048576) : ∃ A cap, v = .slice A l.length cap ∧ OVs (d + 1) w (fun b => lo ≤ b ∧ b < w.heap.size) A l := by
  rcases h.2 with ⟨h', h0⟩ | ⟨g, cap, cur, h', hb, hg, hnc, hcm, hcs, htake⟩
  · refine ⟨none, 0, by rw [h0]; exact h', by unfold maxLen; omega, fun hl => absurd hl (by omega)⟩
  · subst h'
    refine ⟨_, cap, rfl, by unfold maxLen; omega, fun _ => ⟨g, cur, Q, rfl, ⟨hb, heap_lt hg⟩, hg, fun k b hk hq => ?_, fun k hk => ?_⟩⟩
    · obtain ⟨a1, a2, a3, a4⟩ := (hx k hk hk).1 b hq
      exact ⟨⟨a1, a2⟩, fun e => a3 (by rw [e]; rfl), a4⟩
    · obtain ⟨_, A', c', e0, e1, e8, e9⟩ := hx k hk hk
      have hat : ∀ i, i < l.length * 3 → cur[i]? = xs[i]? := fun i hi => by
        rw [← htake, List.getElem?_take_of_lt hi, Array.getElem?_toList]
      exact ⟨A', c', (hat _ (by omega)).trans e0, (hat _ (by omega)).trans e1, (hat _ (by omega)).trans e8, e9⟩
end Go.Proofs.Ytphmhlekfmkdkaa
/-
  Vl trees copied into blocks of their own: no part has a block of another part. No statement is proved here.
-/
namespace Go.Proofs.Ytphmhlekfmkdkaa
open Go.RowKit
set_option maxRecDepth 100000
set_option linter.unusedVariables false

theorem infoOV : (Try.prog.info? 106).map (fun i => (i.zero, i.size, i.bytes)) = some (some (.agg #[.int .i64 0, .int .i64 0, .slice none 0 0]), 3, 40) := by kernel_rfl
def ToVO (d : Nat) : Prop := ∀ (A : Option Addr) (l : List Vl) (cap : Nat) (w : World), RVs d w w.heap.size A l → wVs l ≤ 1048576 →
  Calls Try.prog 106 #[.slice A l.length cap] w fun e w' => ∃ A2, e = .returned (.slice A2 l.length l.length) ∧ OVs (d + 1) w' (Nw w w') A2 l ∧ Below w.heap.size w w'

theorem toVO_of {d : Nat} (ih : ToVO d) (A : Option Addr) (l : List Vl) (cap : Nat) (x0 x1 : Int) (w : World) (hr : RVs d w w.heap.size A l) (hn : wVs l ≤ 1048576) :
    Calls Try.prog 82 #[.agg #[.int .i64 x0, .int .i64 x1, .slice A l.length cap]] w fun e w' => ∃ A2, e = .returned (.agg #[.int .i64 x0, .int .i64 x1, .slice A2 l.length l.length]) ∧ OVs (d + 1) w' (Nw w w') A2 l ∧ Below w.heap.size w w' := by
  have Hr := Lib.hid hr
  have IH := Lib.hid ih
  clear hr ih
  go_enter Try.func82, Try.ntmps82
  go_wp2_with (go_at_call 106; refine (IH.out _ _ _ _ (by exact Hr.out.keep (fun p hp => by rw [World.cell?_alloc_lt _ _ _ (by simp <;> omega), World.cell?_alloc_lt _ _ _ (by simp <;> omega), World.cell?_alloc_lt _ _ _ hp]) (by simp <;> omega)) hn).mono ?_; rintro e w1 ⟨A2, rfl, hf, hb⟩; obtain ⟨hc, hfz⟩ := bcell hb; have hz : w.heap.size + 2 < w1.heap.size := by have := hb.size; simp at this; omega)
  refine bodyPost_ret (v := .agg #[.int .i64 x0, .int .i64 x1, .slice A2 l.length l.length]) (by simp [results, Try.results82, go_sem, hc]) rfl ⟨A2, rfl, ?_, ?_⟩
  · refine (hf.fr _ (P' := fun b => b < w.heap.size + 3) ?_ (fun b hq => by have := hq.1; simp only [World.size_alloc] at this; omega)).wide _ (fun b hq => ⟨by have := hq.1; simp only [World.size_alloc] at this; omega, by have h2 := hq.2; simpa [World.setCell] using h2⟩)
    refine Fr.trans ?_ (Fr.set _ _ _ _ (by simp <;> omega))
    refine Fr.trans ?_ (Fr.set _ _ _ _ (by simp <;> omega))
    refine Fr.trans ?_ (Fr.set _ _ _ _ (by simp <;> omega))
    refine Fr.trans ?_ (Fr.set _ _ _ _ (by simp <;> omega))
    exact Fr.refl _ _
  · skip
    refine Below.setCell ?_ (by simp <;> omega) _
    refine Below.setCell ?_ (by simp <;> omega) _
    refine Below.setCell ?_ (by simp <;> omega) _
    refine Below.setCell ?_ (by simp <;> omega) _
    refine Below.trans ?_ (hb.mono (by simp <;> omega))
    refine Below.alloc (Below.alloc (Below.alloc (Below.refl _ _) ?_ _) ?_ _) ?_ _ <;> simp <;> omega

set_option maxHeartbeats 1600000 in
theorem toVOs_of (d : Nat) (ih : ∀ d', d = d' + 1 → ToVO d') : ToVO d := by
  intro A l cap w hr hn
  obtain ⟨i0, hi, hz0, hz1, hz2⟩ := info_parts infoOV
  have Hr := Lib.hid hr
  have IH := Lib.hid ih
  have HSum := Lib.hid (wVs_sum l)
  have hl : l.length ≤ 1048576 := by have := wVs_sum l; omega
  clear hr ih
  go_enter Try.func106, Try.ntmps106
  go_wp2_with (at_make; refine wpList_make_full _ rfl _ _ 104 rfl w.heap.size 106 i0 _ 3 Try.underlying104 hi hz0 hz1 _ _ _ _ l.length rfl rfl rfl rfl (by rw [hz2]; omega) (by unfold maxLen; omega) (Nat.le_refl _) ?_; intro w1 hown hgr)
  go_loopw [4] (fun i wr => ∃ k : Nat, k ≤ l.length ∧ i = .int .i64 k ∧ ∃ xs Q, wr.ownsRow w.heap.size 106 3 (.slice (some ⟨w.heap.size, 0, none⟩) l.length l.length) l.length xs ∧ RowV d wr w.heap.size (some w.heap.size) Q l xs k ∧ Below w.heap.size w wr) (fun i _ => l.length - (intOf i).toNat)
  case atStart => exact ⟨0, by omega, rfl, _, fun _ _ => False, hown, RowV.zero _ _ _ _ _ _ _, below_of_grown hgr (Nat.le_refl _)⟩
  case round =>
    obtain ⟨k, hk, rfl, xs, Q, hown, hrow, hb⟩ := hrel
    clear hgr hi hz0 hz1 hz2
    by_cases hlt : k < l.length
    · obtain ⟨b, off, rfl, hbB, hv⟩ := (Hr.out.below hb (Nat.le_refl _)).2 k hlt
      obtain ⟨d', hd, A', cp, c0, c1, c2, hm⟩ := hv.parts
      have ha : wVs l[k].kids ≤ 1048576 := by
        have h1 := sum_take_succ wV l k hlt
        have h2 := sum_take_le wV l (k + 1)
        have h3 := wV_kids l[k]
        have h4 := HSum.out
        omega
      have IHd := Lib.hid (IH.out d' hd)
      have Hm := Lib.hid (hm.keep (fun _ _ => rfl) hb.size)
      have HD := Lib.hid hd
      have hwl : w.heap.size < wr.heap.size := own_lt hown
      have HROW := Lib.hid hrow
      clear hm hv hd hrow
      go_wp2_with (go_at_call 82; refine (toVO_of IHd.out _ _ _ _ _ _ Hm.out ha).mono ?_; rintro e w2 ⟨A2, rfl, hf, hb2⟩; have hown2 := own_below hown hb2; obtain ⟨v0, f0⟩ := own_cell hown2 (k * 3) (by omega); obtain ⟨v1, f1⟩ := own_cell hown2 (k * 3 + 1) (by omega); obtain ⟨v2, f2⟩ := own_cell hown2 (k * 3 + 2) (by omega); have g0 := hown2.frozenAt (k * 3); have g1 := hown2.frozenAt (k * 3 + 1); have g2 := hown2.frozenAt (k * 3 + 2); skip)
      have hx := hown2.1
      have s1 := (hown2.stored (k * 3) (.int .i64 l[k].ctor)).1
      have s2 := (s1.stored (k * 3 + 1) (.int .i64 l[k].n)).1
      have s3 := (s2.stored (k * 3 + 2) (.slice A2 l[k].kids.length l[k].kids.length)).1
      have hf2 : OVs d w2 (Nw wr w2) A2 l[k].kids := by rw [HD.out]; exact hf
      have hrow2 := HROW.out.more (xs' := (((xs.set (k * 3) (.int .i64 l[k].ctor)).set (k * 3 + 1) (.int .i64 l[k].n)).set (k * 3 + 2) (.slice A2 l[k].kids.length l[k].kids.length))) hb2 hlt (by omega) (fun g e => by injection e with e; omega) hf2 (fun j c hj hc => by rw [List.getElem?_set_ne (by omega), List.getElem?_set_ne (by omega), List.getElem?_set_ne (by omega)]) (by rw [List.getElem?_set_ne (by omega), List.getElem?_set_ne (by omega), List.getElem?_set_self (by first | omega | (simp <;> omega))]) (by rw [List.getElem?_set_ne (by omega), List.getElem?_set_self (by first | omega | (simp <;> omega))]) (by rw [List.getElem?_set_self (by first | omega | (simp <;> omega))])
      have hrow3 := hrow2.fr (w' := (((w2.setCell ⟨w.heap.size, k * 3, none⟩ (.int .i64 l[k].ctor)).setCell ⟨w.heap.size, k * 3 + 1, none⟩ (.int .i64 l[k].n)).setCell ⟨w.heap.size, k * 3 + 2, none⟩ (.slice A2 l[k].kids.length l[k].kids.length))) (P' := fun b => b = w.heap.size) (((Fr.set (P := fun b => b = w.heap.size) _ _ _ _ rfl).trans (Fr.set (P := fun b => b = w.heap.size) _ _ _ _ rfl)).trans (Fr.set (P := fun b => b = w.heap.size) _ _ _ _ rfl)) (fun b _ hb' _ e => hb' (by rw [e]))
      go_roundw
      case rel => exact ⟨k + 1, by omega, by go_num, _, _, s3, hrow3, (((hb.trans (hb2.mono hb.size)).setCell (Nat.le_refl _) _).setCell (Nat.le_refl _) _).setCell (Nat.le_refl _) _⟩
      case measure => simp [intOf]; omega
    · go_wp2_with fail
      go_ret
      have he : k = l.length := by omega
      obtain ⟨A2, c2, e2, ho⟩ := OVs.of_row hown (he ▸ hrow) hl
      injection e2 with e3 e4 e5
      subst e3
      exact ⟨_, rfl, ho, hb⟩
theorem toVOs_any : ∀ d, ToVO d
  | 0 => toVOs_of 0 (fun _ h => by omega)
  | d + 1 => toVOs_of (d + 1) (fun d' h => (Nat.succ.inj h) ▸ toVOs_any d)
theorem toVO_any (d : Nat) (A : Option Addr) (l : List Vl) (cap : Nat) (x0 x1 : Int) (w : World) (hr : RVs d w w.heap.size A l) (hn : wVs l ≤ 1048576) :
    Calls Try.prog 82 #[.agg #[.int .i64 x0, .int .i64 x1, .slice A l.length cap]] w fun e w' => ∃ A2, e = .returned (.agg #[.int .i64 x0, .int .i64 x1, .slice A2 l.length l.length]) ∧ OVs (d + 1) w' (Nw w w') A2 l ∧ Below w.heap.size w w' := toVO_of (toVOs_any d) A l cap x0 x1 w hr hn
end Go.Proofs.Ytphmhlekfmkdkaa
/-
  The functions that compare values, where both sides read as the same. No statement is proved here.
-/
namespace Go.Proofs.Ytphmhlekfmkdkaa
open Go.RowKit Go.Sort
set_option maxRecDepth 100000
set_option linter.unusedVariables false

def EqS (d : Nat) : Prop := ∀ (A A' : Option Addr) (l : List Vl) (cap cap' : Nat) (w : World), RVs d w w.heap.size A l → RVs d w w.heap.size A' l →
  Calls Try.prog 107 #[.slice A l.length cap, .slice A' l.length cap'] w fun e w' => e = .returned (.bool true) ∧ Below w.heap.size w w'

theorem eqV_of {d : Nat} (ih : EqS d) (A A' : Option Addr) (l : List Vl) (cap cap' : Nat) (c n : Int) (w : World) (hr : RVs d w w.heap.size A l) (hr' : RVs d w w.heap.size A' l) :
    Calls Try.prog 83 #[.agg #[.int .i64 c, .int .i64 n, .slice A l.length cap], .agg #[.int .i64 c, .int .i64 n, .slice A' l.length cap']] w fun e w' => e = .returned (.bool true) ∧ Below w.heap.size w w' := by
  have Hr := Lib.hid hr
  have Hr' := Lib.hid hr'
  have IH := Lib.hid ih
  clear hr hr' ih
  go_enter Try.func83, Try.ntmps83
  go_wp2_with (go_at_call 107; refine (IH.out _ _ _ _ _ _ (by exact Hr.out.keep (keep_two _ _) (by simp; omega)) (by exact Hr'.out.keep (keep_two _ _) (by simp; omega))).mono ?_; rintro e w1 ⟨rfl, hb⟩; obtain ⟨hc, hfz⟩ := bcell hb)
  go_ret
  exact ⟨rfl, below_two hb⟩

set_option maxHeartbeats 800000 in
theorem eqS_of (d : Nat) (ih : ∀ d', d = d' + 1 → EqS d') : EqS d := by
  intro A A' l cap cap' w hr hr'
  have hn := hr.1
  unfold maxLen at hn
  have Hr := Lib.hid hr
  have Hr' := Lib.hid hr'
  have IH := Lib.hid ih
  clear hr hr' ih
  go_enter Try.func107, Try.ntmps107
  go_wp2_with fail
  go_loopw [5] (fun i wr => ∃ k : Nat, k ≤ l.length ∧ i = .int .i64 k ∧ Below w.heap.size w wr) (fun i _ => l.length - (intOf i).toNat)
  case atStart => exact ⟨0, by omega, rfl, Below.refl _ _⟩
  case round =>
    obtain ⟨k, hk, rfl, hb⟩ := hrel
    by_cases hlt : k < l.length
    · obtain ⟨b, off, rfl, hbB, hv⟩ := (Hr.out.below hb (Nat.le_refl _)).2 k hlt
      obtain ⟨d', hd, B1, cp, c0, c1, c2, hm⟩ := hv.parts
      obtain ⟨b', off', rfl, hbB', hv'⟩ := (Hr'.out.below hb (Nat.le_refl _)).2 k hlt
      obtain ⟨d'', hd', B2, cp', c0', c1', c2', hm'⟩ := hv'.parts
      obtain rfl : d'' = d' := by omega
      have d0 := cell_regrown c0
      have d1 := cell_regrown c1
      have d2 := cell_regrown c2
      have d0' := cell_regrown c0'
      have d1' := cell_regrown c1'
      have d2' := cell_regrown c2'
      have Hm := Lib.hid hm
      have Hm' := Lib.hid hm'
      have IHd := Lib.hid (IH.out d'' hd)
      clear c0 c1 c2 c0' c1' c2' hm hm' hv hv' hd hd'
      have hi : (k : Int) < (l.length : Int) := by omega
      go_wp2_with fail
      refine wp_region_quiet_below (by kernel_rfl) (by kernel_rfl) ?_
      repeat (quiet_step (exact Calls.regrown_of (eqV_of IHd.out _ _ _ _ _ _ _ _ (Hm.out.keep (fun p hp => (below_regrown wr _ _).cell (Nat.lt_of_lt_of_le hp hb.size)) (Nat.le_trans hb.size (below_regrown wr _ _).size)) (Hm'.out.keep (fun p hp => (below_regrown wr _ _).cell (Nat.lt_of_lt_of_le hp hb.size)) (Nat.le_trans hb.size (below_regrown wr _ _).size)))))
      refine wpQuiet_nil ?_
      intro _ hw'
      obtain ⟨⟨dq, osq⟩, hw''⟩ := hw'
      subst hw''
      have hb2 := hb.trans ((below_regrown wr dq osq).mono hb.size)
      clear d0 d1 d2 d0' d1' d2'
      go_wp2_with fail
      go_roundw
      case rel => exact ⟨k + 1, by omega, by go_num, hb2⟩
      case measure => simp [intOf]; omega
    · go_wp2_with fail
      go_ret
      exact ⟨rfl, hb⟩
theorem eqS_any : ∀ d, EqS d
  | 0 => eqS_of 0 (fun _ h => by omega)
  | d + 1 => eqS_of (d + 1) (fun d' h => (Nat.succ.inj h) ▸ eqS_any d)
theorem eqV_same (d : Nat) (A A' : Option Addr) (l : List Vl) (cap cap' : Nat) (c n : Int) (w : World) (hr : RVs d w w.heap.size A l) (hr' : RVs d w w.heap.size A' l) :
    Calls Try.prog 83 #[.agg #[.int .i64 c, .int .i64 n, .slice A l.length cap], .agg #[.int .i64 c, .int .i64 n, .slice A' l.length cap']] w fun e w' => e = .returned (.bool true) ∧ Below w.heap.size w w' := eqV_of (eqS_any d) A A' l cap cap' c n w hr hr'
end Go.Proofs.Ytphmhlekfmkdkaa
/-
  Lists of what variables stand for: how they lie in memory, and what they hold. No statement is proved here.
-/
namespace Go.Proofs.Ytphmhlekfmkdkaa
open Go.RowKit Go.Sort
set_option maxRecDepth 100000
set_option linter.unusedVariables false


structure Bn where
  var : Int
  val : Vl
instance : Inhabited Bn := ⟨⟨0, default⟩⟩
def wB (b : Bn) : Nat := wVs b.val.kids
def wBs (l : List Bn) : Nat := l.length + (l.map wB).sum
def RBn (d : Nat) (w : World) (B b o : Nat) (x : Bn) : Prop := ∃ A' cap, w.cell? ⟨b, o, none⟩ = some (.int .i64 x.var) ∧ w.cell? ⟨b, o + 1, none⟩ = some (.int .i64 x.val.ctor) ∧ w.cell? ⟨b, o + 2, none⟩ = some (.int .i64 x.val.n) ∧ w.cell? ⟨b, o + 3, none⟩ = some (.slice A' x.val.kids.length cap) ∧ RVs d w B A' x.val.kids
def RBs (d : Nat) (w : World) (B : Nat) (A : Option Addr) (l : List Bn) : Prop := l.length ≤ maxLen ∧ ∀ k (h : k < l.length), ∃ b off, A = some ⟨b, off, none⟩ ∧ b < B ∧ RBn d w B b (off + k * 4) l[k]
section
variable {w w' : World} {B B' d : Nat} {A : Option Addr} {l : List Bn}
theorem RBs.keep (h : RBs d w B A l) (hk : ∀ p : Addr, p.block < B → w'.cell? p = w.cell? p) (hB : B ≤ B') : RBs d w' B' A l :=
  ⟨h.1, fun k hk' => by
    obtain ⟨b, off, e, hb, A', cap, h0, h1, h2, h3, hv⟩ := h.2 k hk'
    exact ⟨b, off, e, by omega, A', cap, (hk _ hb).trans h0, (hk _ hb).trans h1, (hk _ hb).trans h2, (hk _ hb).trans h3, hv.keep hk hB⟩⟩
theorem RBs.below {B0 : Nat} (h : RBs d w B A l) (hb : Below B0 w w') (hB : B ≤ B0) : RBs d w' B A l := h.keep (fun _ hp => hb.cell (Nat.lt_of_lt_of_le hp hB)) (Nat.le_refl _)
theorem RBs.at_ (h : RBs d w w.heap.size A l) (hb : Below w.heap.size w w') : RBs d w' w'.heap.size A l := h.keep (fun _ hp => hb.cell hp) hb.size
theorem RBs.nil : RBs d w B A [] := ⟨Nat.zero_le _, fun k h => absurd h (Nat.not_lt_zero _)⟩
end

theorem szB_any (d : Nat) (A : Option Addr) (l : List Vl) (cap : Nat) (x c n q : Int) (w : World) (hr : RVs d w w.heap.size A l) (h0 : 0 ≤ q) (h1 : q ≤ 1048576) :
    Calls Try.prog 57 #[.agg #[.int .i64 x, .int .i64 c, .int .i64 n, .slice A l.length cap], .int .i64 q] w fun e w' => e = .returned (.int .i64 (left q (wVs l))) ∧ Below w.heap.size w w' := by
  have Hr := Lib.hid hr
  clear hr
  by_cases hc2 : (wVs l : Int) ≤ q
  · have H2 := Lib.hid (left_ok hc2)
    go_enter Try.func57, Try.ntmps57
    go_wp2_with (go_at_call 81; refine (szV_any d _ _ _ _ _ _ _ (by exact Hr.out.keep (fun p hp => World.cell?_alloc_lt _ _ _ hp) (by simp)) h0 h1).mono ?_; rw [H2.out]; rintro e w' ⟨rfl, hb⟩)
    go_ret
    exact ⟨ret_i64 (by rw [H2.out]), ((Below.refl _ _).alloc (Nat.le_refl _) _).trans (hb.mono (by simp))⟩
  · have H2 := Lib.hid (left_no hc2)
    go_enter Try.func57, Try.ntmps57
    go_wp2_with (go_at_call 81; refine (szV_any d _ _ _ _ _ _ _ (by exact Hr.out.keep (fun p hp => World.cell?_alloc_lt _ _ _ hp) (by simp)) h0 h1).mono ?_; rw [H2.out]; rintro e w' ⟨rfl, hb⟩)
    go_ret
    exact ⟨ret_i64 (by rw [H2.out]), ((Below.refl _ _).alloc (Nat.le_refl _) _).trans (hb.mono (by simp))⟩

set_option maxHeartbeats 400000 in
theorem szBs_any (d : Nat) (A : Option Addr) (l : List Bn) (cap : Nat) (q0 : Int) (w : World) (hr : RBs d w w.heap.size A l) (h0 : 0 ≤ q0) (h1 : q0 ≤ 1048576) :
    Calls Try.prog 29 #[.slice A l.length cap, .int .i64 q0] w fun e w' => e = .returned (.int .i64 (left q0 (wBs l))) ∧ Below w.heap.size w w' := by
  have hn := hr.1
  unfold maxLen at hn
  have Hr := Lib.hid hr
  have HSum : Hid (wBs l = l.length + (l.map wB).sum) := rfl
  clear hr
  by_cases hc : (l.length : Int) ≤ q0
  · go_enter Try.func29, Try.ntmps29
    go_wp2_with fail
    go_loopw [1, 5] (fun t i wr => ∃ k : Nat, k ≤ l.length ∧ i = .int .i64 k ∧ ∃ q : Int, 0 ≤ q ∧ q ≤ 1048576 ∧ t = .int .i64 q ∧ Hid (q = q0 - (l.length + ((l.take k).map wB).sum : Nat)) ∧ Below w.heap.size w wr) (fun _ i _ => l.length - (intOf i).toNat)
    case atStart => exact ⟨0, by omega, rfl, _, by omega, by omega, rfl, by unfold Hid; simp, Below.refl _ _⟩
    case round =>
      obtain ⟨k, hk, rfl, q, hq0, hq1, rfl, HQ, hb⟩ := hrel
      by_cases hlt : k < l.length
      · obtain ⟨b, off, rfl, hbB, A', cp, c0, c1, c2, c3, hm⟩ := (Hr.out.below hb (Nat.le_refl _)).2 k hlt
        have HS := Lib.hid (sum_take_succ wB l k hlt)
        have HL := Lib.hid (sum_take_le wB l (k + 1))
        have HW : Hid (wB l[k] = wVs l[k].val.kids) := rfl
        have Hm := Lib.hid (hm.keep (fun _ _ => rfl) hb.size)
        clear hm
        by_cases hc2 : (wVs l[k].val.kids : Int) ≤ q
        · have H2 := Lib.hid (left_ok hc2)
          go_wp2_with (go_at_call 57; refine (szB_any d _ _ _ _ _ _ _ _ Hm.out (by omega) (by omega)).mono ?_; rw [H2.out]; rintro e w' ⟨rfl, hb'⟩)
          have hb2 := hb.trans (hb'.mono hb.size)
          go_roundw
          case rel => exact ⟨k + 1, by omega, by go_num, _, by omega, by omega, rfl, by unfold Hid; rw [HS.out, HW.out, HQ.out]; omega, hb2⟩
          case measure => simp [intOf]; omega
        · have H2 := Lib.hid (left_no hc2)
          have H := Lib.hid (left_no (l := q0) (n := wBs l) (by rw [HSum.out]; rw [HQ.out] at hc2; rw [HS.out, HW.out] at HL; have := HL.out; omega))
          go_wp2_with (go_at_call 57; refine (szB_any d _ _ _ _ _ _ _ _ Hm.out (by omega) (by omega)).mono ?_; rw [H2.out]; rintro e w' ⟨rfl, hb'⟩)
          have hb2 := hb.trans (hb'.mono hb.size)
          go_ret
          exact ⟨ret_i64 (by rw [H.out]), hb2⟩
      · go_wp2_with fail
        go_ret
        refine ⟨ret_i64 ?_, hb⟩
        have h2 := HQ.out
        rw [List.take_of_length_le (by omega), ← HSum.out] at h2
        rw [left_ok (by omega)]
        exact h2
  · have H := Lib.hid (left_no (l := q0) (n := wBs l) (by rw [HSum.out]; omega))
    go_enter Try.func29, Try.ntmps29
    go_wp2_with fail
    go_ret
    exact ⟨ret_i64 (by rw [H.out]), Below.refl _ _⟩
end Go.Proofs.Ytphmhlekfmkdkaa
/-
  Whether a guard holds: what the document asks, and the search of a variable. No statement is proved here.
-/
namespace Go.Proofs.Ytphmhlekfmkdkaa
open Go.RowKit Go.Sort Go.Deep
set_option maxRecDepth 100000
set_option linter.unusedVariables false


def okB (g0 g2 : Int) (v : Vl) : Bool := decide (v.ctor = -1) && (decide (g0 = 1 ∧ v.n < g2) || decide (g0 = 2 ∧ v.n = g2))
def fndB (g0 g1 g2 : Int) : List Bn → Bool
  | [] => false
  | b :: l => if b.var = g1 then okB g0 g2 b.val else fndB g0 g1 g2 l
def ghB (g0 g1 g2 : Int) (l : List Bn) : Bool := if g0 = 0 then true else fndB g0 g1 g2 l
def NoB (l : List Bn) (g1 : Int) (k : Nat) : Prop := ∀ j (h : j < l.length), j < k → ¬ l[j].var = g1
theorem NoB.zero (l : List Bn) (g1 : Int) : NoB l g1 0 := fun j _ h => absurd h (by omega)
theorem NoB.step {l : List Bn} {g1 : Int} {k : Nat} (h : NoB l g1 k) (hk : k < l.length) (e : ¬ l[k].var = g1) : NoB l g1 (k + 1) := by
  intro j hj hjk
  by_cases e' : j = k
  · subst e'; exact e
  · exact h j hj (by omega)
section
variable {g0 g1 g2 : Int}
theorem fnd_none : ∀ {l : List Bn}, NoB l g1 l.length → fndB g0 g1 g2 l = false
  | [], _ => rfl
  | b :: l, h => by
    unfold fndB
    have h0 : ¬ b.var = g1 := h 0 (by simp) (by simp)
    rw [if_neg h0]
    exact fnd_none (fun j hj hjk => h (j + 1) (by simpa using hj) (by simpa using hj))
theorem fnd_at : ∀ {l : List Bn} {k : Nat} (hk : k < l.length), NoB l g1 k → l[k].var = g1 → fndB g0 g1 g2 l = okB g0 g2 l[k].val
  | [], _, hk, _, _ => absurd hk (by simp)
  | b :: l, 0, _, _, e => by
    unfold fndB
    have e' : b.var = g1 := e
    rw [if_pos e']; rfl
  | b :: l, k + 1, hk, h, e => by
    unfold fndB
    have h0 : ¬ b.var = g1 := h 0 (by simp) (by omega)
    rw [if_neg h0]
    exact fnd_at (l := l) (k := k) (by simpa using hk) (fun j hj hjk => h (j + 1) (by simpa using hj) (by omega)) e
theorem ok_unk {v : Vl} (h : ¬ (g0 = 1 ∨ g0 = 2)) : okB g0 g2 v = false := by
  unfold okB
  have a : decide (g0 = 1 ∧ v.n < g2) = false := decide_eq_false (fun h' => h (.inl h'.1))
  have b : decide (g0 = 2 ∧ v.n = g2) = false := decide_eq_false (fun h' => h (.inr h'.1))
  rw [a, b]; simp
theorem fnd_unk (h : ¬ (g0 = 1 ∨ g0 = 2)) : ∀ {l : List Bn}, fndB g0 g1 g2 l = false
  | [] => rfl
  | b :: l => by
    unfold fndB
    rw [ok_unk h, fnd_unk h]; simp
theorem ok_ctor {v : Vl} (h : ¬ v.ctor = -1) : okB g0 g2 v = false := by unfold okB; rw [decide_eq_false h]; rfl
theorem ok_less {v : Vl} (h : v.ctor = -1) (h1 : g0 = 1) : okB g0 g2 v = decide (v.n < g2) := by
  subst h1; unfold okB
  have b : decide ((1 : Int) = 2 ∧ v.n = g2) = false := decide_eq_false (fun h' => absurd h'.1 (by decide))
  rw [decide_eq_true h, b]; simp
theorem ok_equal {v : Vl} (h : v.ctor = -1) (h1 : g0 = 2) : okB g0 g2 v = decide (v.n = g2) := by
  subst h1; unfold okB
  have b : decide ((2 : Int) = 1 ∧ v.n < g2) = false := decide_eq_false (fun h' => absurd h'.1 (by decide))
  rw [decide_eq_true h, b]; simp
end
def FndR (l : List Bn) (g1 r : Int) : Prop := (r = -1 ∧ NoB l g1 l.length) ∨ ∃ k : Nat, ∃ h : k < l.length, r = k ∧ l[k].var = g1 ∧ NoB l g1 k

theorem cond_lt (g1 g2 : Int) (w : World) : Calls Try.prog 60 #[.agg #[.int .i64 1, .int .i64 g1, .int .i64 g2]] w fun e w' => e = .returned (.tuple #[.iface 137 (.int .i64 g2), .bool true]) ∧ Below w.heap.size w w' := by
  go_enter Try.func60, Try.ntmps60
  go_wp2_with fail
  go_ret2
  exact ⟨rfl, (Below.refl _ _).alloc (Nat.le_refl _) _⟩
theorem cond_eq (g1 g2 : Int) (w : World) : Calls Try.prog 60 #[.agg #[.int .i64 2, .int .i64 g1, .int .i64 g2]] w fun e w' => e = .returned (.tuple #[.iface 138 (.int .i64 g2), .bool true]) ∧ Below w.heap.size w w' := by
  go_enter Try.func60, Try.ntmps60
  go_wp2_with fail
  go_ret2
  exact ⟨rfl, (Below.refl _ _).alloc (Nat.le_refl _) _⟩
theorem holds_lt (g2 n : Int) (w : World) : Calls Try.prog 156 #[.int .i64 g2, .int .i64 n] w fun e w' => e = .returned (.bool (decide (n < g2))) ∧ w' = w := by
  go_enter Try.func156, Try.ntmps156
  go_wp2_with fail
  go_ret
  exact ⟨rfl, rfl⟩
theorem holds_eq (g2 n : Int) (w : World) : Calls Try.prog 158 #[.int .i64 g2, .int .i64 n] w fun e w' => e = .returned (.bool (decide (n = g2))) ∧ w' = w := by
  by_cases h : n = g2
  · have u := ieq_t h
    have HD : Hid (decide (n = g2) = true) := decide_eq_true h
    clear h
    go_enter Try.func158, Try.ntmps158
    go_wp2_with fail
    go_ret
    exact ⟨ret_bool HD.out.symm, rfl⟩
  · have u := ieq_f h
    have HD : Hid (decide (n = g2) = false) := decide_eq_false h
    clear h
    go_enter Try.func158, Try.ntmps158
    go_wp2_with fail
    go_ret
    exact ⟨ret_bool HD.out.symm, rfl⟩

theorem isG_any (pb : Nat) (A : Option Addr) (l : List Vl) (cap : Nat) (x c n g1 : Int) (w : World) (hp : w.cell? ⟨pb, 1, none⟩ = some (.int .i64 g1)) :
    Calls Try.prog 59 #[.agg #[.int .i64 x, .int .i64 c, .int .i64 n, .slice A l.length cap], .pointer (some ⟨pb, 0, none⟩)] w fun e w' => e = .returned (.bool (decide (x = g1))) ∧ Below w.heap.size w w' := by
  have hpl : pb < w.heap.size := Go.block_lt_of_cell hp
  have hpA : (w.alloc (.cells #[.int .i64 x, .int .i64 c, .int .i64 n, .slice A l.length cap] 108)).cell? ⟨pb, 1, none⟩ = some (.int .i64 g1) := by rw [World.cell?_alloc_lt _ _ _ hpl]; exact hp
  by_cases h : x = g1
  · have u := ieq_t h
    have HD : Hid (decide (x = g1) = true) := decide_eq_true h
    clear h hp
    go_enter Try.func59, Try.ntmps59
    go_wp2_with fail
    go_ret
    exact ⟨ret_bool HD.out.symm, (Below.refl _ _).alloc (Nat.le_refl _) _⟩
  · have u := ieq_f h
    have HD : Hid (decide (x = g1) = false) := decide_eq_false h
    clear h hp
    go_enter Try.func59, Try.ntmps59
    go_wp2_with fail
    go_ret
    exact ⟨ret_bool HD.out.symm, (Below.refl _ _).alloc (Nat.le_refl _) _⟩

set_option maxHeartbeats 1600000 in
theorem indexG_any (d pb : Nat) (A : Option Addr) (l : List Bn) (cap : Nat) (g1 : Int) (w : World) (hr : RBs d w w.heap.size A l) (hp : w.cell? ⟨pb, 1, none⟩ = some (.int .i64 g1)) :
    Calls Try.prog 61 #[.slice A l.length cap, .func (.func 59) #[] #[.pointer (some ⟨pb, 0, none⟩)]] w fun e w' => ∃ r : Int, e = .returned (.int .i64 r) ∧ FndR l g1 r ∧ Below w.heap.size w w' := by
  have hn := hr.1
  unfold maxLen at hn
  have Hr := Lib.hid hr
  have HP := Lib.hid hp
  have hpl : pb < w.heap.size := Go.block_lt_of_cell hp
  clear hr hp
  go_enter Try.func61, Try.ntmps61
  go_wp2_with fail
  go_loopw [8] (fun i wr => ∃ k : Nat, k ≤ l.length ∧ i = .int .i64 k ∧ NoB l g1 k ∧ Below w.heap.size w wr) (fun i _ => l.length - (intOf i).toNat)
  case atStart => exact ⟨0, by omega, rfl, NoB.zero _ _, Below.refl _ _⟩
  case round =>
    obtain ⟨k, hk, rfl, hno, hb⟩ := hrel
    by_cases hlt : k < l.length
    · obtain ⟨g, off, rfl, hbB, A', cp, c0, c1, c2, c3, hm⟩ := (Hr.out.below hb (Nat.le_refl _)).2 k hlt
      have hkI : (k : Int) < (l.length : Int) := by omega
      have HIS := Lib.hid (isG_any pb A' l[k].val.kids cp l[k].var l[k].val.ctor l[k].val.n g1 wr ((hb.cell (p := ⟨pb, 1, none⟩) hpl).trans HP.out))
      clear hm
      by_cases hs : l[k].var = g1
      · have HC : Hid (decide (l[k].var = g1) = true) := decide_eq_true hs
        have HT : Hid (FndR l g1 (k : Int)) := .inr ⟨k, hlt, rfl, hs, hno⟩
        clear hs hno
        go_wp2_with fail
        refine HIS.out.mono ?_
        rw [HC.out]
        rintro e w1 ⟨rfl, hb1⟩
        have hb2 := hb.trans (hb1.mono hb.size)
        go_wp2_with fail
        go_ret
        exact ⟨_, rfl, HT.out, hb2⟩
      · have HC : Hid (decide (l[k].var = g1) = false) := decide_eq_false hs
        have HN := Lib.hid (hno.step hlt hs)
        clear hs hno
        go_wp2_with fail
        refine HIS.out.mono ?_
        rw [HC.out]
        rintro e w1 ⟨rfl, hb1⟩
        have hb2 := hb.trans (hb1.mono hb.size)
        go_wp2_with fail
        go_roundw
        case rel => exact ⟨k + 1, by omega, by go_num, HN.out, hb2⟩
        case measure => simp [intOf]; omega
    · have HT : Hid (FndR l g1 (-1)) := .inl ⟨rfl, fun j hj hjk => hno j hj (by omega)⟩
      clear hno
      go_wp2_with fail
      go_ret
      exact ⟨_, rfl, HT.out, hb⟩
end Go.Proofs.Ytphmhlekfmkdkaa
/-
  GuardHolds of the program. No statement is proved here.
-/
namespace Go.Proofs.Ytphmhlekfmkdkaa
open Go.RowKit Go.Sort Go.Deep
set_option maxRecDepth 100000
set_option linter.unusedVariables false


set_option maxHeartbeats 1600000 in
theorem gh_lt (d : Nat) (A : Option Addr) (l : List Bn) (cap : Nat) (g1 g2 : Int) (w : World) (hr : RBs d w w.heap.size A l) :
    Calls Try.prog 33 #[.agg #[.int .i64 1, .int .i64 g1, .int .i64 g2], .slice A l.length cap] w fun e w' => e = .returned (.bool (fndB 1 g1 g2 l)) ∧ Below w.heap.size w w' := by
  have Hr := Lib.hid hr
  clear hr
  generalize hw0 : w.alloc (.cells #[.int .i64 1, .int .i64 g1, .int .i64 g2] 54) = w0
  have hb0 : Below w.heap.size w w0 := by rw [← hw0]; exact (Below.refl _ _).alloc (Nat.le_refl _) _
  have HX : Hid (GBx w0 w.heap.size 1 g1 g2) := by rw [← hw0]; exact ⟨by simp [go_sem], by simp [go_sem], by simp [go_sem]⟩
  have HW := Lib.hid hw0
  clear hw0
  obtain ⟨x0, x1, x2⟩ := HX.out
  have hn := Hr.out.1
  unfold maxLen at hn
  have HC := Lib.hid (cond_lt g1 g2 w0)
  have hm0 : ∀ w, (method 313 137 (.int .i64 g2) "loop.example/matchcompiler/impl.holdsFor").run Try.prog w = .ok (156, .int .i64 g2) w := fun w => by kernel_rfl
  go_enter Try.func33, Try.ntmps33
  go_wp2_with (go_at_call 60; (try rw [HW.out]); refine HC.out.mono ?_; rintro e1 w1 ⟨rfl, hb1⟩; obtain ⟨y0, y1, y2⟩ := HX.out.at_ hb1; have hb1w := below_aft hb0 hb1 hb0.size)
  refine (indexG_any d w.heap.size A l cap g1 _ (Hr.out.at_ hb1w) y1).mono ?_
  rintro e2 w2 ⟨r, rfl, hf, hb2⟩
  have hb2w := below_aft hb1w hb2 hb1w.size
  obtain ⟨z0, z1, z2⟩ := (HX.out.at_ hb1).at_ hb2
  clear x0 x1 x2 y0 y1 y2
  rcases hf with ⟨rfl, hno⟩ | ⟨k, hk, rfl, hv, hno⟩
  · have HF : Hid (fndB 1 g1 g2 l = false) := fnd_none hno
    clear hno
    go_wp2_with fail
    go_ret
    exact ⟨ret_bool HF.out.symm, hb2w⟩
  · have HF : Hid (fndB 1 g1 g2 l = okB 1 g2 l[k].val) := fnd_at hk hno hv
    clear hno hv
    obtain ⟨b, off, rfl, hbB, A', cp, c0, c1, c2, c3, hm⟩ := (Hr.out.at_ hb2w).2 k hk
    have hkI : (k : Int) < (l.length : Int) := by omega
    have qk : decide ((k : Int) < 0) = false := decide_eq_false (by omega)
    have c2' : w2.cell? ⟨b, off + k * 4 + 1 + 1, none⟩ = some (.int .i64 l[k].val.n) := c2
    have c3' : w2.cell? ⟨b, off + k * 4 + 1 + 2, none⟩ = some (.slice A' l[k].val.kids.length cp) := c3
    have hsz2 : w.heap.size ≤ w2.heap.size := hb2w.size
    clear hm
    by_cases hc : l[k].val.ctor = -1
    · have u := ieq_t hc
      have HF2 : Hid (fndB 1 g1 g2 l = decide (l[k].val.n < g2)) := by unfold Hid; rw [HF.out, ok_less hc rfl]
      clear hc
      go_wp2_with (go_at_call 156; refine (holds_lt g2 l[k].val.n _).mono ?_; rintro e3 w3 ⟨rfl, rfl⟩)
      go_ret
      exact ⟨ret_bool HF2.out.symm, by first | exact hb2w | exact (hb2w.alloc (by omega) _)⟩
    · have u := ieq_f hc
      have HF2 : Hid (fndB 1 g1 g2 l = false) := by unfold Hid; rw [HF.out, ok_ctor hc]
      clear hc
      go_wp2_with fail
      go_ret
      exact ⟨ret_bool HF2.out.symm, by first | exact hb2w | exact (hb2w.alloc (by omega) _)⟩

set_option maxHeartbeats 1600000 in
theorem gh_eq (d : Nat) (A : Option Addr) (l : List Bn) (cap : Nat) (g1 g2 : Int) (w : World) (hr : RBs d w w.heap.size A l) :
    Calls Try.prog 33 #[.agg #[.int .i64 2, .int .i64 g1, .int .i64 g2], .slice A l.length cap] w fun e w' => e = .returned (.bool (fndB 2 g1 g2 l)) ∧ Below w.heap.size w w' := by
  have Hr := Lib.hid hr
  clear hr
  generalize hw0 : w.alloc (.cells #[.int .i64 2, .int .i64 g1, .int .i64 g2] 54) = w0
  have hb0 : Below w.heap.size w w0 := by rw [← hw0]; exact (Below.refl _ _).alloc (Nat.le_refl _) _
  have HX : Hid (GBx w0 w.heap.size 2 g1 g2) := by rw [← hw0]; exact ⟨by simp [go_sem], by simp [go_sem], by simp [go_sem]⟩
  have HW := Lib.hid hw0
  clear hw0
  obtain ⟨x0, x1, x2⟩ := HX.out
  have hn := Hr.out.1
  unfold maxLen at hn
  have HC := Lib.hid (cond_eq g1 g2 w0)
  have hm0 : ∀ w, (method 313 138 (.int .i64 g2) "loop.example/matchcompiler/impl.holdsFor").run Try.prog w = .ok (158, .int .i64 g2) w := fun w => by kernel_rfl
  go_enter Try.func33, Try.ntmps33
  go_wp2_with (go_at_call 60; (try rw [HW.out]); refine HC.out.mono ?_; rintro e1 w1 ⟨rfl, hb1⟩; obtain ⟨y0, y1, y2⟩ := HX.out.at_ hb1; have hb1w := below_aft hb0 hb1 hb0.size)
  refine (indexG_any d w.heap.size A l cap g1 _ (Hr.out.at_ hb1w) y1).mono ?_
  rintro e2 w2 ⟨r, rfl, hf, hb2⟩
  have hb2w := below_aft hb1w hb2 hb1w.size
  obtain ⟨z0, z1, z2⟩ := (HX.out.at_ hb1).at_ hb2
  clear x0 x1 x2 y0 y1 y2
  rcases hf with ⟨rfl, hno⟩ | ⟨k, hk, rfl, hv, hno⟩
  · have HF : Hid (fndB 2 g1 g2 l = false) := fnd_none hno
    clear hno
    go_wp2_with fail
    go_ret
    exact ⟨ret_bool HF.out.symm, hb2w⟩
  · have HF : Hid (fndB 2 g1 g2 l = okB 2 g2 l[k].val) := fnd_at hk hno hv
    clear hno hv
    obtain ⟨b, off, rfl, hbB, A', cp, c0, c1, c2, c3, hm⟩ := (Hr.out.at_ hb2w).2 k hk
    have hkI : (k : Int) < (l.length : Int) := by omega
    have qk : decide ((k : Int) < 0) = false := decide_eq_false (by omega)
    have c2' : w2.cell? ⟨b, off + k * 4 + 1 + 1, none⟩ = some (.int .i64 l[k].val.n) := c2
    have c3' : w2.cell? ⟨b, off + k * 4 + 1 + 2, none⟩ = some (.slice A' l[k].val.kids.length cp) := c3
    have hsz2 : w.heap.size ≤ w2.heap.size := hb2w.size
    clear hm
    by_cases hc : l[k].val.ctor = -1
    · have u := ieq_t hc
      have HF2 : Hid (fndB 2 g1 g2 l = decide (l[k].val.n = g2)) := by unfold Hid; rw [HF.out, ok_equal hc rfl]
      clear hc
      go_wp2_with (go_at_call 158; refine (holds_eq g2 l[k].val.n _).mono ?_; rintro e3 w3 ⟨rfl, rfl⟩)
      go_ret
      exact ⟨ret_bool HF2.out.symm, by first | exact hb2w | exact (hb2w.alloc (by omega) _)⟩
    · have u := ieq_f hc
      have HF2 : Hid (fndB 2 g1 g2 l = false) := by unfold Hid; rw [HF.out, ok_ctor hc]
      clear hc
      go_wp2_with fail
      go_ret
      exact ⟨ret_bool HF2.out.symm, by first | exact hb2w | exact (hb2w.alloc (by omega) _)⟩
end Go.Proofs.Ytphmhlekfmkdkaa
/-
  GuardHolds of the program, every guard. No statement is proved here.
-/
namespace Go.Proofs.Ytphmhlekfmkdkaa
open Go.RowKit Go.Sort Go.Deep
set_option maxRecDepth 100000
set_option linter.unusedVariables false


set_option maxHeartbeats 1600000 in
theorem gh_unk (d : Nat) (A : Option Addr) (l : List Bn) (cap : Nat) (g0 g1 g2 : Int) (w : World) (hr : RBs d w w.heap.size A l) (h0 : ¬ g0 = 0) (h1 : ¬ (g0 = 1 ∨ g0 = 2)) :
    Calls Try.prog 33 #[.agg #[.int .i64 g0, .int .i64 g1, .int .i64 g2], .slice A l.length cap] w fun e w' => e = .returned (.bool false) ∧ Below w.heap.size w w' := by
  have Hr := Lib.hid hr
  clear hr
  generalize hw0 : w.alloc (.cells #[.int .i64 g0, .int .i64 g1, .int .i64 g2] 54) = w0
  have hb0 : Below w.heap.size w w0 := by rw [← hw0]; exact (Below.refl _ _).alloc (Nat.le_refl _) _
  have HX : Hid (GBx w0 w.heap.size g0 g1 g2) := by rw [← hw0]; exact ⟨by simp [go_sem], by simp [go_sem], by simp [go_sem]⟩
  have HW := Lib.hid hw0
  clear hw0
  obtain ⟨x0, x1, x2⟩ := HX.out
  have u0 := ieq_f h0
  have HD : Hid (decide (g0 = 1 ∨ g0 = 2) = false) := decide_eq_false h1
  have HC := Lib.hid (cond_any g0 g1 g2 w0)
  clear h0 h1
  go_enter Try.func33, Try.ntmps33
  go_wp2_with (go_at_call 60; (try rw [HW.out]); refine HC.out.mono ?_; rw [HD.out]; rintro e1 w1 ⟨v1, rfl, hb1⟩; obtain ⟨y0, y1, y2⟩ := HX.out.at_ hb1; have hb1w := below_aft hb0 hb1 hb0.size)
  refine (indexG_any d w.heap.size A l cap g1 _ (Hr.out.at_ hb1w) y1).mono ?_
  rintro e2 w2 ⟨r, rfl, hf, hb2⟩
  have hb2w := below_aft hb1w hb2 hb1w.size
  obtain ⟨z0, z1, z2⟩ := (HX.out.at_ hb1).at_ hb2
  clear x0 x1 x2 y0 y1 y2 hf
  go_wp2_with fail
  go_ret
  exact ⟨rfl, hb2w⟩
theorem gh_zero (A : Option Addr) (n cap : Nat) (g1 g2 : Int) (w : World) :
    Calls Try.prog 33 #[.agg #[.int .i64 0, .int .i64 g1, .int .i64 g2], .slice A n cap] w fun e w' => e = .returned (.bool true) ∧ Below w.heap.size w w' := by
  go_enter Try.func33, Try.ntmps33
  go_wp2_with fail
  go_ret
  exact ⟨rfl, (Below.refl _ _).alloc (Nat.le_refl _) _⟩
theorem gh_impl (d : Nat) (A : Option Addr) (l : List Bn) (cap : Nat) (g0 g1 g2 : Int) (w : World) (hr : RBs d w w.heap.size A l) :
    Calls Try.prog 33 #[.agg #[.int .i64 g0, .int .i64 g1, .int .i64 g2], .slice A l.length cap] w fun e w' => e = .returned (.bool (ghB g0 g1 g2 l)) ∧ Below w.heap.size w w' := by
  by_cases h0 : g0 = 0
  · subst h0
    exact gh_zero A l.length cap g1 g2 w
  · have e : ghB g0 g1 g2 l = fndB g0 g1 g2 l := if_neg h0
    rw [e]
    by_cases h1 : g0 = 1
    · subst h1; exact gh_lt d A l cap g1 g2 w hr
    · by_cases h2 : g0 = 2
      · subst h2; exact gh_eq d A l cap g1 g2 w hr
      · rw [fnd_unk (fun h => h.elim h1 h2)]
        exact gh_unk d A l cap g0 g1 g2 w hr h0 (fun h => h.elim h1 h2)
end Go.Proofs.Ytphmhlekfmkdkaa
/-
  GuardHolds of the document. No statement is proved here.
-/
namespace Go.Proofs.Ytphmhlekfmkdkaa
open Go.RowKit Go.Sort Go.Deep
set_option maxRecDepth 100000
set_option linter.unusedVariables false


set_option maxHeartbeats 6400000 in
theorem gh_spec (d : Nat) (A : Option Addr) (l : List Bn) (cap : Nat) (g0 g1 g2 : Int) (w : World) (hr : RBs d w w.heap.size A l) :
    Calls Try.prog 30 #[.agg #[.int .i64 g0, .int .i64 g1, .int .i64 g2], .slice A l.length cap] w fun e w' => e = .returned (.bool (ghB g0 g1 g2 l)) ∧ Below w.heap.size w w' := by
  by_cases h0 : g0 = 0
  · have u0 := ieq_t h0
    have HE : Hid (ghB g0 g1 g2 l = true) := if_pos h0
    clear h0
    go_enter Try.func30, Try.ntmps30
    go_wp2_with fail
    go_ret
    exact ⟨ret_bool HE.out.symm, (Below.refl _ _).alloc (Nat.le_refl _) _⟩
  · have u0 := ieq_f h0
    have HE : Hid (ghB g0 g1 g2 l = fndB g0 g1 g2 l) := if_neg h0
    have hn := hr.1
    unfold maxLen at hn
    have Hr := Lib.hid hr
    clear hr
    generalize hw0 : w.alloc (.cells #[.int .i64 g0, .int .i64 g1, .int .i64 g2] 54) = w0
    have hb0 : Below w.heap.size w w0 := by rw [← hw0]; exact (Below.refl _ _).alloc (Nat.le_refl _) _
    have HX : Hid (GBx w0 w.heap.size g0 g1 g2) := by rw [← hw0]; exact ⟨by simp [go_sem], by simp [go_sem], by simp [go_sem]⟩
    have HW := Lib.hid hw0
    clear hw0
    obtain ⟨x0, x1, x2⟩ := HX.out
    go_enter Try.func30, Try.ntmps30
    go_wp2_with fail
    rw [HW.out]
    go_loopw [5] (fun i wr => ∃ k : Nat, k ≤ l.length ∧ i = .int .i64 k ∧ NoB l g1 k ∧ Below w0.heap.size w0 wr) (fun i _ => l.length - (intOf i).toNat)
    case atStart => exact ⟨0, by omega, rfl, NoB.zero _ _, Below.refl _ _⟩
    case round =>
      obtain ⟨k, hk, rfl, hno, hb0r⟩ := hrel
      obtain ⟨y0, y1, y2⟩ := HX.out.at_ hb0r
      have hb := below_aft hb0 hb0r hb0.size
      clear x0 x1 x2
      by_cases hlt : k < l.length
      · obtain ⟨b, off, rfl, hbB, A', cp, c0, c1, c2, c3, hm⟩ := (Hr.out.below hb (Nat.le_refl _)).2 k hlt
        have hkI : (k : Int) < (l.length : Int) := by omega
        have c2' : wr.cell? ⟨b, off + k * 4 + 1 + 1, none⟩ = some (.int .i64 l[k].val.n) := c2
        have d0 := cell_regrown c0
        have d1 := cell_regrown c1
        have d2 := cell_regrown c2
        have d2' := cell_regrown c2'
        have z0 := cell_regrown y0
        have z1 := cell_regrown y1
        have z2 := cell_regrown y2
        clear c0 c1 c2 c2' c3 hm y0 y1 y2
        by_cases hv : l[k].var = g1
        · have HF : Hid (fndB g0 g1 g2 l = okB g0 g2 l[k].val) := fnd_at hlt hno hv
          have qv : (l[k].var != g1) = false := by simp [hv]
          clear hno hv
          by_cases hc : l[k].val.ctor = -1
          · have u := ieq_t hc
            by_cases h1 : g0 = 1
            · have u1 := ieq_t h1
              have e1 : okB g0 g2 l[k].val = decide (l[k].val.n < g2) := ok_less hc h1
              by_cases hn2 : l[k].val.n < g2
              · have q2 : decide (l[k].val.n < g2) = true := decide_eq_true hn2
                have HF2 : Hid (ghB g0 g1 g2 l = true) := by unfold Hid; rw [HE.out, HF.out]; rw [e1, q2]
                go_wp2_with fail
                refine wp_region_quiet_below (by kernel_rfl) (by kernel_rfl) ?_
                repeat (quiet_step (fail))
                refine wpQuiet_nil ?_
                intro _ hw'
                obtain ⟨⟨dq, osq⟩, hw''⟩ := hw'
                subst hw''
                have hb2 := hb.trans ((below_regrown wr dq osq).mono hb.size)
                go_wp2_with fail
                go_ret
                exact ⟨ret_bool HF2.out.symm, hb2⟩
              · have q2 : decide (l[k].val.n < g2) = false := decide_eq_false hn2
                have u2 : (g0 == 2) = false := ieq_f (by omega)
                have HF2 : Hid (ghB g0 g1 g2 l = false) := by unfold Hid; rw [HE.out, HF.out]; rw [e1, q2]
                go_wp2_with fail
                refine wp_region_quiet_below (by kernel_rfl) (by kernel_rfl) ?_
                repeat (quiet_step (fail))
                refine wpQuiet_nil ?_
                intro _ hw'
                obtain ⟨⟨dq, osq⟩, hw''⟩ := hw'
                subst hw''
                have hb2 := hb.trans ((below_regrown wr dq osq).mono hb.size)
                go_wp2_with fail
                go_ret
                exact ⟨ret_bool HF2.out.symm, hb2⟩
            · have u1 := ieq_f h1
              by_cases h2 : g0 = 2
              · have u2 := ieq_t h2
                have e1 : okB g0 g2 l[k].val = decide (l[k].val.n = g2) := ok_equal hc h2
                by_cases hn2 : l[k].val.n = g2
                · have q2 := ieq_t hn2
                  have e2 : decide (l[k].val.n = g2) = true := decide_eq_true hn2
                  have HF2 : Hid (ghB g0 g1 g2 l = true) := by unfold Hid; rw [HE.out, HF.out]; rw [e1, e2]
                  go_wp2_with fail
                  refine wp_region_quiet_below (by kernel_rfl) (by kernel_rfl) ?_
                  repeat (quiet_step (fail))
                  refine wpQuiet_nil ?_
                  intro _ hw'
                  obtain ⟨⟨dq, osq⟩, hw''⟩ := hw'
                  subst hw''
                  have hb2 := hb.trans ((below_regrown wr dq osq).mono hb.size)
                  go_wp2_with fail
                  go_ret
                  exact ⟨ret_bool HF2.out.symm, hb2⟩
                · have q2 := ieq_f hn2
                  have e2 : decide (l[k].val.n = g2) = false := decide_eq_false hn2
                  have HF2 : Hid (ghB g0 g1 g2 l = false) := by unfold Hid; rw [HE.out, HF.out]; rw [e1, e2]
                  go_wp2_with fail
                  refine wp_region_quiet_below (by kernel_rfl) (by kernel_rfl) ?_
                  repeat (quiet_step (fail))
                  refine wpQuiet_nil ?_
                  intro _ hw'
                  obtain ⟨⟨dq, osq⟩, hw''⟩ := hw'
                  subst hw''
                  have hb2 := hb.trans ((below_regrown wr dq osq).mono hb.size)
                  go_wp2_with fail
                  go_ret
                  exact ⟨ret_bool HF2.out.symm, hb2⟩
              · have u2 := ieq_f h2
                have e1 : okB g0 g2 l[k].val = false := ok_unk (fun h => h.elim h1 h2)
                have HF2 : Hid (ghB g0 g1 g2 l = false) := by unfold Hid; rw [HE.out, HF.out]; exact e1
                go_wp2_with fail
                refine wp_region_quiet_below (by kernel_rfl) (by kernel_rfl) ?_
                repeat (quiet_step (fail))
                refine wpQuiet_nil ?_
                intro _ hw'
                obtain ⟨⟨dq, osq⟩, hw''⟩ := hw'
                subst hw''
                have hb2 := hb.trans ((below_regrown wr dq osq).mono hb.size)
                go_wp2_with fail
                go_ret
                exact ⟨ret_bool HF2.out.symm, hb2⟩
          · have u := ieq_f hc
            have e1 : okB g0 g2 l[k].val = false := ok_ctor hc
            have HF2 : Hid (ghB g0 g1 g2 l = false) := by unfold Hid; rw [HE.out, HF.out]; exact e1
            go_wp2_with fail
            refine wp_region_quiet_below (by kernel_rfl) (by kernel_rfl) ?_
            repeat (quiet_step (fail))
            refine wpQuiet_nil ?_
            intro _ hw'
            obtain ⟨⟨dq, osq⟩, hw''⟩ := hw'
            subst hw''
            have hb2 := hb.trans ((below_regrown wr dq osq).mono hb.size)
            go_wp2_with fail
            go_ret
            exact ⟨ret_bool HF2.out.symm, hb2⟩
        · have HN := Lib.hid (hno.step hlt hv)
          have qv : (l[k].var != g1) = true := by simp [hv]
          clear hno hv
          go_wp2_with fail
          refine wp_region_quiet_below (by kernel_rfl) (by kernel_rfl) ?_
          repeat (quiet_step (fail))
          refine wpQuiet_nil ?_
          intro _ hw'
          obtain ⟨⟨dq, osq⟩, hw''⟩ := hw'
          subst hw''
          have hb2 := hb0r.trans ((below_regrown wr dq osq).mono hb0r.size)
          go_wp2_with fail
          go_roundw
          case rel => exact ⟨k + 1, by omega, by go_num, HN.out, hb2⟩
          case measure => simp [intOf]; omega
      · have HF : Hid (ghB g0 g1 g2 l = false) := by unfold Hid; rw [HE.out]; exact fnd_none (fun j hj hjk => hno j hj (by omega))
        clear hno
        go_wp2_with fail
        go_ret
        exact ⟨ret_bool HF.out.symm, hb⟩
end Go.Proofs.Ytphmhlekfmkdkaa
