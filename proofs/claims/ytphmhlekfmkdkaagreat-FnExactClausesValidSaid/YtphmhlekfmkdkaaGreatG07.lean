/-
  Lists of clauses: how they lie in memory, and what they hold. No statement is proved here.
-/
import Derived.Test.YtphmhlekfmkdkaaGreatG06
import Derived.Test.YtphmhlekfmkdkaaGreatG00
namespace Go.Proofs.YtphmhlekfmkdkaaGreat
open Go.RowKit Go.Sort
set_option maxRecDepth 100000
set_option linter.unusedVariables false


structure Cn where
  pat : Pt
  g0 : Int
  g1 : Int
  g2 : Int
instance : Inhabited Cn := ⟨⟨default, 0, 0, 0⟩⟩
def wC (b : Cn) : Nat := wPs b.pat.kids
def wCs (l : List Cn) : Nat := l.length + (l.map wC).sum
def RCn (d : Nat) (w : World) (B b o : Nat) (x : Cn) : Prop := ∃ A' cap, w.cell? ⟨b, o, none⟩ = some (.int .i64 x.pat.op) ∧ w.cell? ⟨b, o + 1, none⟩ = some (.int .i64 x.pat.ctor) ∧ w.cell? ⟨b, o + 2, none⟩ = some (.int .i64 x.pat.n) ∧ w.cell? ⟨b, o + 3, none⟩ = some (.int .i64 x.pat.m) ∧ w.cell? ⟨b, o + 4, none⟩ = some (.int .i64 x.pat.var) ∧ w.cell? ⟨b, o + 5, none⟩ = some (.slice A' x.pat.kids.length cap) ∧ w.cell? ⟨b, o + 6, none⟩ = some (.int .i64 x.g0) ∧ w.cell? ⟨b, o + 7, none⟩ = some (.int .i64 x.g1) ∧ w.cell? ⟨b, o + 8, none⟩ = some (.int .i64 x.g2) ∧ RPs d w B A' x.pat.kids
def RCs (d : Nat) (w : World) (B : Nat) (A : Option Addr) (l : List Cn) : Prop := l.length ≤ maxLen ∧ ∀ k (h : k < l.length), ∃ b off, A = some ⟨b, off, none⟩ ∧ b < B ∧ RCn d w B b (off + k * 9) l[k]
section
variable {w w' : World} {B B' d : Nat} {A : Option Addr} {l : List Cn}
theorem RCn.keep {b o : Nat} {x : Cn} (h : RCn d w B b o x) (hb : b < B) (hk : ∀ p : Addr, p.block < B → w'.cell? p = w.cell? p) (hB : B ≤ B') : RCn d w' B' b o x := by
  obtain ⟨A', cap, h0, h1, h2, h3, h4, h5, h6, h7, h8, hv⟩ := h
  exact ⟨A', cap, (hk _ hb).trans h0, (hk _ hb).trans h1, (hk _ hb).trans h2, (hk _ hb).trans h3, (hk _ hb).trans h4, (hk _ hb).trans h5, (hk _ hb).trans h6, (hk _ hb).trans h7, (hk _ hb).trans h8, hv.keep hk hB⟩
theorem RCs.keep (h : RCs d w B A l) (hk : ∀ p : Addr, p.block < B → w'.cell? p = w.cell? p) (hB : B ≤ B') : RCs d w' B' A l :=
  ⟨h.1, fun k hk' => by
    obtain ⟨b, off, e, hb, hc⟩ := h.2 k hk'
    exact ⟨b, off, e, by omega, hc.keep hb hk hB⟩⟩
theorem RCs.below {B0 : Nat} (h : RCs d w B A l) (hb : Below B0 w w') (hB : B ≤ B0) : RCs d w' B A l := h.keep (fun _ hp => hb.cell (Nat.lt_of_lt_of_le hp hB)) (Nat.le_refl _)
theorem RCs.at_ (h : RCs d w w.heap.size A l) (hb : Below w.heap.size w w') : RCs d w' w'.heap.size A l := h.keep (fun _ hp => hb.cell hp) hb.size
theorem RCs.nil : RCs d w B A [] := ⟨Nat.zero_le _, fun k h => absurd h (Nat.not_lt_zero _)⟩
theorem RCn.more {d' b o : Nat} {x : Cn} (h : RCn d w B b o x) (hd : d ≤ d') : RCn d' w B b o x := by
  obtain ⟨A', cap, h0, h1, h2, h3, h4, h5, h6, h7, h8, hv⟩ := h
  exact ⟨A', cap, h0, h1, h2, h3, h4, h5, h6, h7, h8, hv.more hd⟩
end

set_option maxHeartbeats 1600000 in
theorem szCs_any (d : Nat) (A : Option Addr) (l : List Cn) (cap : Nat) (q0 : Int) (w : World) (hr : RCs d w w.heap.size A l) (h0 : 0 ≤ q0) (h1 : q0 ≤ 1048576) :
    Calls Tryz.prog 8 #[.slice A l.length cap, .int .i64 q0] w fun e w' => e = .returned (.int .i64 (left q0 (wCs l))) ∧ Below w.heap.size w w' := by
  have hn := hr.1
  unfold maxLen at hn
  have Hr := Lib.hid hr
  have HSum : Hid (wCs l = l.length + (l.map wC).sum) := rfl
  clear hr
  by_cases hc : (l.length : Int) ≤ q0
  · go_enter Tryz.func8, Tryz.ntmps8
    go_wp2_with fail
    go_loopw [1, 5] (fun t i wr => ∃ k : Nat, k ≤ l.length ∧ i = .int .i64 k ∧ ∃ q : Int, 0 ≤ q ∧ q ≤ 1048576 ∧ t = .int .i64 q ∧ Hid (q = q0 - (l.length + ((l.take k).map wC).sum : Nat)) ∧ Below w.heap.size w wr) (fun _ i _ => l.length - (intOf i).toNat)
    case atStart => exact ⟨0, by omega, rfl, _, by omega, by omega, rfl, by unfold Hid; simp, Below.refl _ _⟩
    case round =>
      obtain ⟨k, hk, rfl, q, hq0, hq1, rfl, HQ, hb⟩ := hrel
      by_cases hlt : k < l.length
      · obtain ⟨b, off, rfl, hbB, A', cp, c0, c1, c2, c3, c4, c5, c6, c7, c8, hm⟩ := (Hr.out.below hb (Nat.le_refl _)).2 k hlt
        have HSS := Lib.hid (sum_take_succ wC l k hlt)
        have HL := Lib.hid (sum_take_le wC l (k + 1))
        have HW : Hid (wC l[k] = wPs l[k].pat.kids) := rfl
        have Hm := Lib.hid (hm.keep (fun _ _ => rfl) hb.size)
        clear hm
        by_cases hc2 : (wPs l[k].pat.kids : Int) ≤ q
        · have H2 := Lib.hid (left_ok hc2)
          go_wp2_with (go_at_call 39; refine (szC_any d _ _ _ _ _ _ _ _ _ _ _ _ _ Hm.out (by omega) (by omega)).mono ?_; rw [H2.out]; rintro e w' ⟨rfl, hb'⟩)
          have hb2 := hb.trans (hb'.mono hb.size)
          go_roundw
          case rel => exact ⟨k + 1, by omega, by go_num, _, by omega, by omega, rfl, by unfold Hid; rw [HSS.out, HW.out, HQ.out]; omega, hb2⟩
          case measure => simp [intOf]; omega
        · have H2 := Lib.hid (left_no hc2)
          have H := Lib.hid (left_no (l := q0) (n := wCs l) (by rw [HSum.out]; rw [HQ.out] at hc2; rw [HSS.out, HW.out] at HL; have := HL.out; omega))
          go_wp2_with (go_at_call 39; refine (szC_any d _ _ _ _ _ _ _ _ _ _ _ _ _ Hm.out (by omega) (by omega)).mono ?_; rw [H2.out]; rintro e w' ⟨rfl, hb'⟩)
          have hb2 := hb.trans (hb'.mono hb.size)
          go_ret
          exact ⟨ret_i64 (by rw [H.out]), hb2⟩
      · go_wp2_with fail
        go_ret
        refine ⟨ret_i64 ?_, hb⟩
        have h2 := HQ.out
        rw [List.take_of_length_le (by omega), ← HSum.out] at h2
        rw [left_ok (by omega)]
        exact h2
  · have H := Lib.hid (left_no (l := q0) (n := wCs l) (by rw [HSum.out]; omega))
    go_enter Tryz.func8, Tryz.ntmps8
    go_wp2_with fail
    go_ret
    exact ⟨ret_i64 (by rw [H.out]), Below.refl _ _⟩
end Go.Proofs.YtphmhlekfmkdkaaGreat
/-
  Values as plain trees, and as they lie in memory. No statement is proved here.
-/
namespace Go.Proofs.YtphmhlekfmkdkaaGreat
open Go.RowKit
set_option linter.unusedVariables false

inductive Vl where
  | mk (ctor n : Int) (kids : List Vl)
instance : Inhabited Vl := ⟨.mk 0 0 []⟩
def Vl.ctor : Vl → Int | .mk c _ _ => c
def Vl.n : Vl → Int | .mk _ n _ => n
def Vl.kids : Vl → List Vl | .mk _ _ ks => ks

mutual
/-- How many nodes lie below a node. -/
def wV : Vl → Nat | .mk _ _ ks => wVs ks
def wVs : List Vl → Nat | [] => 0 | v :: vs => 1 + wV v + wVs vs
end
theorem wV_kids (v : Vl) : wV v = wVs v.kids := by cases v; rw [wV]; rfl
theorem wVs_sum : ∀ l : List Vl, wVs l = l.length + (l.map wV).sum
  | [] => by rw [wVs]; rfl
  | v :: vs => by rw [wVs, wVs_sum vs]; simp only [List.length_cons, List.map_cons, List.sum_cons]; omega

/-- A value in three cells, its parts in blocks below B; at most d levels. -/
def RVl : Nat → World → Nat → Nat → Nat → Vl → Prop
  | 0, _, _, _, _, _ => False
  | d + 1, w, B, b, o, v => ∃ A cap, w.cell? ⟨b, o, none⟩ = some (.int .i64 v.ctor) ∧ w.cell? ⟨b, o + 1, none⟩ = some (.int .i64 v.n) ∧ w.cell? ⟨b, o + 2, none⟩ = some (.slice A v.kids.length cap) ∧ v.kids.length ≤ maxLen ∧ ∀ k (h : k < v.kids.length), ∃ b' off, A = some ⟨b', off, none⟩ ∧ b' < B ∧ RVl d w B b' (off + k * 3) v.kids[k]
def RVs (d : Nat) (w : World) (B : Nat) (A : Option Addr) (l : List Vl) : Prop := l.length ≤ maxLen ∧ ∀ k (h : k < l.length), ∃ b off, A = some ⟨b, off, none⟩ ∧ b < B ∧ RVl d w B b (off + k * 3) l[k]

section
variable {w w' : World} {B B' : Nat} {A : Option Addr}
theorem RVl.parts {d b o : Nat} {v : Vl} (h : RVl d w B b o v) : ∃ d', d = d' + 1 ∧ ∃ A cap, w.cell? ⟨b, o, none⟩ = some (.int .i64 v.ctor) ∧ w.cell? ⟨b, o + 1, none⟩ = some (.int .i64 v.n) ∧ w.cell? ⟨b, o + 2, none⟩ = some (.slice A v.kids.length cap) ∧ RVs d' w B A v.kids := by
  cases d with
  | zero => exact h.elim
  | succ d =>
    obtain ⟨A, cap, h1, h2, h3, h4, h5⟩ := h
    exact ⟨d, rfl, A, cap, h1, h2, h3, h4, h5⟩
theorem RVl.keep : ∀ (d : Nat) {b o : Nat} {v : Vl}, RVl d w B b o v → b < B → (∀ p : Addr, p.block < B → w'.cell? p = w.cell? p) → B ≤ B' → RVl d w' B' b o v
  | 0, _, _, _, h, _, _, _ => h.elim
  | d + 1, _, _, _, ⟨A, cap, h1, h2, h3, h4, h5⟩, hb, hk, hB => ⟨A, cap, (hk _ hb).trans h1, (hk _ hb).trans h2, (hk _ hb).trans h3, h4, fun k hk' => by
    obtain ⟨b', off, e, hb', hv⟩ := h5 k hk'
    exact ⟨b', off, e, by omega, RVl.keep d hv hb' hk hB⟩⟩
theorem RVs.keep {d : Nat} {l : List Vl} (h : RVs d w B A l) (hk : ∀ p : Addr, p.block < B → w'.cell? p = w.cell? p) (hB : B ≤ B') : RVs d w' B' A l :=
  ⟨h.1, fun k hk' => by
    obtain ⟨b, off, e, hb, hv⟩ := h.2 k hk'
    exact ⟨b, off, e, by omega, hv.keep d hb hk hB⟩⟩
theorem RVs.below {d B0 : Nat} {l : List Vl} (h : RVs d w B A l) (hb : Below B0 w w') (hB : B ≤ B0) : RVs d w' B A l := h.keep (fun _ hp => hb.cell (Nat.lt_of_lt_of_le hp hB)) (Nat.le_refl _)
theorem RVs.at_ {d : Nat} {l : List Vl} (h : RVs d w w.heap.size A l) (hb : Below w.heap.size w w') : RVs d w' w'.heap.size A l := h.keep (fun _ hp => hb.cell hp) hb.size
theorem RVs.nil {d : Nat} : RVs d w B A [] := ⟨Nat.zero_le _, fun k h => absurd h (Nat.not_lt_zero _)⟩
theorem RVl.up : ∀ (d : Nat) {b o : Nat} {v : Vl}, RVl d w B b o v → RVl (d + 1) w B b o v
  | 0, _, _, _, h => h.elim
  | d + 1, _, _, _, ⟨A, cap, h1, h2, h3, h4, h5⟩ => ⟨A, cap, h1, h2, h3, h4, fun k hk' => by
    obtain ⟨b', off, e, hb', hv⟩ := h5 k hk'
    exact ⟨b', off, e, hb', RVl.up d hv⟩⟩
theorem RVl.more {d d' b o : Nat} {v : Vl} (h : RVl d w B b o v) (hd : d ≤ d') : RVl d' w B b o v := by
  obtain ⟨e, rfl⟩ := Nat.exists_eq_add_of_le hd
  clear hd
  induction e with
  | zero => exact h
  | succ e ih => exact RVl.up _ ih
theorem RVs.more {d d' : Nat} {l : List Vl} (h : RVs d w B A l) (hd : d ≤ d') : RVs d' w B A l :=
  ⟨h.1, fun k hk => by obtain ⟨b, off, e, hb, hv⟩ := h.2 k hk; exact ⟨b, off, e, hb, hv.more hd⟩⟩
end

/-- Values in blocks of their own, each list behind the list that it is a part of. -/
def FVs : Nat → World → Nat → Nat → List Vl → Prop
  | 0, _, _, _, _ => False
  | d + 1, w, lo, g, l => lo ≤ g ∧ l.length ≤ maxLen ∧ ∃ cs, w.heap[g]? = some (.cells cs 55 (0, 0)) ∧ cs.size = l.length * 3 ∧ ∀ k (h : k < l.length), ∃ g', cs[k * 3]? = some (.int .i64 l[k].ctor) ∧ cs[k * 3 + 1]? = some (.int .i64 l[k].n) ∧ cs[k * 3 + 2]? = some (.slice (some ⟨g', 0, none⟩) l[k].kids.length l[k].kids.length) ∧ FVs d w (g + 1) g' l[k].kids
theorem FVs.keep : ∀ (d : Nat) {w w' : World} {lo lo' g : Nat} {l : List Vl}, FVs d w lo g l → lo' ≤ lo → (∀ b o, lo ≤ b → w.heap[b]? = some o → w'.heap[b]? = w.heap[b]?) → FVs d w' lo' g l
  | 0, _, _, _, _, _, _, h, _, _ => h.elim
  | d + 1, _, _, _, _, g, _, ⟨h1, h2, cs, h3, h4, h5⟩, hl, hk => ⟨by omega, h2, cs, (hk _ _ h1 h3).trans h3, h4, fun k hk' => by
    obtain ⟨g', e0, e1, e2, e3⟩ := h5 k hk'
    exact ⟨g', e0, e1, e2, FVs.keep d e3 (Nat.le_refl _) (fun b o hb => hk b o (by omega))⟩⟩
end Go.Proofs.YtphmhlekfmkdkaaGreat
