/-
  The constructors that can make values of a type: both functions, whole. No statement is proved here.
-/
import Derived.Test.YtphmhlekfmkdkaaGreatG13
import Derived.Test.YtphmhlekfmkdkaaGreatG02
import Derived.Test.YtphmhlekfmkdkaaGreatG03
import Derived.Outline
import Derived.BigQuiet
namespace Go.Proofs.YtphmhlekfmkdkaaGreat
open Go.RowKit
set_option maxRecDepth 100000
set_option linter.unusedVariables false

/-- The places of the constructors of a type. -/
noncomputable def ctR (l : List Da) (t : Ty) : List Int := if dec (TyOK l t) then (if t.data = -1 then [] else ctL (l.getD t.data.toNat default).ctors t.index (l.getD t.data.toNat default).ctors.length) else []
theorem ctR_no {l : List Da} {t : Ty} (h : ¬ TyOK l t) : ctR l t = [] := by unfold ctR; rw [dec_f h]; rfl
theorem ctR_int {l : List Da} {t : Ty} (h : t.data = -1) : ctR l t = [] := by unfold ctR; rw [if_pos h]; split <;> rfl
theorem ctR_data {l : List Da} {d : Nat} {i : Int} (h : TyOK l ⟨d, i⟩) (hd : d < l.length) : ctR l ⟨d, i⟩ = ctL l[d].ctors i l[d].ctors.length := by
  have hn : ¬ (d : Int) = -1 := by omega
  have e : l.getD d default = l[d] := by simp [List.getD, List.getElem?_eq_getElem hd]
  unfold ctR
  rw [dec_t h]
  simp only [if_true, if_neg hn, Int.toNat_natCast, e]
theorem ty_cases {l : List Da} {t : Ty} (h : TyOK l t) : t.data = -1 ∨ ∃ d : Nat, t.data = d ∧ d < l.length := by
  by_cases h1 : t.data = -1
  · exact .inl h1
  · have h2 := h.2
    rw [argB_data h1] at h2
    have h3 := of_decide_eq_true h2
    exact .inr ⟨t.data.toNat, by omega, by omega⟩
theorem ty_four {l : List Da} {t : Ty} (h : TyOK l t) {d : Nat} (hd : d < l.length) : l[d].ctors.length ≤ 4 := (data_len4 (h.1.2.1 d hd hd)).2
theorem OInts.lower {w : World} {lo lo' : Nat} {v : Value} {xs : List Int} (h : OInts w lo v xs) (hl : lo' ≤ lo) : OInts w lo' v xs := by
  have h' : w.ownsRow lo 3 1 v xs.length (xs.map (Value.int .i64)) := h
  refine ⟨h'.1, ?_⟩
  rcases h'.2 with h0 | ⟨g, cap, cur, a1, a2, a3⟩
  · exact .inl h0
  · exact .inr ⟨g, cap, cur, a1, by omega, a3⟩
theorem ctR_len (l : List Da) (t : Ty) : (ctR l t).length ≤ 4 := by
  by_cases h : TyOK l t
  · rcases ty_cases h with h1 | ⟨d, h1, hd⟩
    · rw [ctR_int h1]; simp
    · obtain ⟨td, ti⟩ := t
      simp only at h1
      subst h1
      rw [ctR_data h hd]
      have := ctL_length l[d].ctors ti l[d].ctors.length
      have := ty_four h hd
      omega
  · rw [ctR_no h]; simp

theorem l1Ctors_int (A : Option Addr) (n cap : Nat) (ix : Int) (w : World) :
    Calls Tryz.prog 127 #[.slice A n cap, .agg #[.int .i64 (-1), .int .i64 ix]] w fun e w' => ∃ v, e = .returned v ∧ OInts w' w.heap.size v [] ∧ Below w.heap.size w w' := by
  have HO : Hid (∀ o : Obj, OInts ((w.alloc o).alloc (.cells #[] 3)) w.heap.size (.slice (some ⟨w.heap.size + 1, 0, none⟩) 0 0) []) := fun o => by
    have := World.ownsRow_lit (base := w.heap.size) (e := 3) (size := 1) (w.alloc o) #[] 0 (by simp) (by simp) rfl
    unfold OInts
    simpa using this
  have HB : Hid (∀ o o' : Obj, Below w.heap.size w ((w.alloc o).alloc o')) := fun o o' => ((Below.refl _ _).alloc (Nat.le_refl _) _).alloc (by simp) _
  go_enter Tryz.func127, Tryz.ntmps127
  go_wp2_with fail
  go_ret
  exact ⟨_, rfl, HO.out _, HB.out _ _⟩
theorem ctorsOf_int (A : Option Addr) (n cap : Nat) (ix : Int) (w : World) :
    Calls Tryz.prog 130 #[.slice A n cap, .agg #[.int .i64 (-1), .int .i64 ix]] w fun e w' => ∃ v, e = .returned v ∧ OInts w' w.heap.size v [] ∧ Below w.heap.size w w' := by
  have HB : Hid (∀ o : Obj, Below w.heap.size w (w.alloc o)) := fun o => (Below.refl _ _).alloc (Nat.le_refl _) _
  go_enter Tryz.func130, Tryz.ntmps130
  go_wp2_with fail
  go_ret
  exact ⟨_, rfl, World.ownsRow_nil _ _ _ _, HB.out _⟩

theorem typeV_yes {A : Option Addr} {l : List Da} {cap : Nat} {t : Ty} {w : World} (hr : RDas w w.heap.size A l) (h : TyOK l t) :
    Calls Tryz.prog 40 #[.slice A l.length cap, .agg #[.int .i64 t.data, .int .i64 t.index]] w fun e w' => e = .returned (.bool true) ∧ Below w.heap.size w w' := by rw [← dec_t h]; exact typeValid_spec A l cap t w hr
theorem typeV_no {A : Option Addr} {l : List Da} {cap : Nat} {t : Ty} {w : World} (hr : RDas w w.heap.size A l) (h : ¬ TyOK l t) :
    Calls Tryz.prog 40 #[.slice A l.length cap, .agg #[.int .i64 t.data, .int .i64 t.index]] w fun e w' => e = .returned (.bool false) ∧ Below w.heap.size w w' := by rw [← dec_f h]; exact typeValid_spec A l cap t w hr
theorem typeI_yes {A : Option Addr} {l : List Da} {cap : Nat} {t : Ty} {w : World} (hr : RDas w w.heap.size A l) (h : TyOK l t) :
    Calls Tryz.prog 46 #[.slice A l.length cap, .agg #[.int .i64 t.data, .int .i64 t.index]] w fun e w' => e = .returned (.bool true) ∧ Below w.heap.size w w' := by rw [← dec_t h]; exact typeValid_impl A l cap t w hr
theorem typeI_no {A : Option Addr} {l : List Da} {cap : Nat} {t : Ty} {w : World} (hr : RDas w w.heap.size A l) (h : ¬ TyOK l t) :
    Calls Tryz.prog 46 #[.slice A l.length cap, .agg #[.int .i64 t.data, .int .i64 t.index]] w fun e w' => e = .returned (.bool false) ∧ Below w.heap.size w w' := by rw [← dec_f h]; exact typeValid_impl A l cap t w hr

/-- What the two functions give for a valid type. -/
theorem l1Ctors_all (A : Option Addr) (l : List Da) (cap : Nat) (t : Ty) (w : World) (hr : RDas w w.heap.size A l) (h : TyOK l t) :
    Calls Tryz.prog 127 #[.slice A l.length cap, .agg #[.int .i64 t.data, .int .i64 t.index]] w fun e w' => ∃ v, e = .returned v ∧ OInts w' w.heap.size v (ctR l t) ∧ Below w.heap.size w w' := by
  rcases ty_cases h with h1 | ⟨d, h1, hd⟩
  · rw [ctR_int h1, h1]; exact l1Ctors_int A l.length cap t.index w
  · obtain ⟨td, ti⟩ := t
    simp only at h1
    subst h1
    rw [ctR_data h hd]
    exact (l1Ctors_data A l cap d ti hd (ty_four h hd) w hr).mono fun e w' ⟨v, he, ho, hb⟩ => ⟨v, he, ho.lower (by omega), hb⟩
theorem ctorsOf_all (A : Option Addr) (l : List Da) (cap : Nat) (t : Ty) (w : World) (hr : RDas w w.heap.size A l) (h : TyOK l t) :
    Calls Tryz.prog 130 #[.slice A l.length cap, .agg #[.int .i64 t.data, .int .i64 t.index]] w fun e w' => ∃ v, e = .returned v ∧ OInts w' w.heap.size v (ctR l t) ∧ Below w.heap.size w w' := by
  rcases ty_cases h with h1 | ⟨d, h1, hd⟩
  · rw [ctR_int h1, h1]; exact ctorsOf_int A l.length cap t.index w
  · obtain ⟨td, ti⟩ := t
    simp only at h1
    subst h1
    rw [ctR_data h hd]
    exact (ctorsOf_data A l cap d ti hd (ty_four h hd) w hr).mono fun e w' ⟨v, he, ho, hb⟩ => ⟨v, he, ho.lower (by omega), hb⟩

end Go.Proofs.YtphmhlekfmkdkaaGreat
/-
  Lists of integers compared, marked and looked at again. No statement is proved here.
-/
namespace Go.Proofs.YtphmhlekfmkdkaaGreat
open Go.RowKit Go.Sort
set_option maxRecDepth 100000
set_option linter.unusedVariables false

/-- Integers that a slice holds. -/
def RInts (w : World) (A : Option Addr) (l : List Int) : Prop := l.length ≤ maxLen ∧ ∀ k (h : k < l.length), ∃ b off, A = some ⟨b, off, none⟩ ∧ b < w.heap.size ∧ w.cell? ⟨b, off + k, none⟩ = some (.int .i64 l[k])
theorem RInts.at_ {w w' : World} {A : Option Addr} {l : List Int} (h : RInts w A l) (hb : Below w.heap.size w w') : RInts w' A l :=
  ⟨h.1, fun k hk => by
    obtain ⟨b, off, e, hbl, h1⟩ := h.2 k hk
    exact ⟨b, off, e, Nat.lt_of_lt_of_le hbl hb.size, (hb.cell (p := ⟨b, off + k, none⟩) hbl).trans h1⟩⟩
/-- A row of integers of the call's own, as a slice. -/
theorem OInts.form {w : World} {lo : Nat} {v : Value} {xs : List Int} (h : OInts w lo v xs) (hx : xs.length ≤ maxLen) : ∃ A cap, v = .slice A xs.length cap ∧ RInts w A xs := by
  have h' : w.ownsRow lo 3 1 v xs.length (xs.map (Value.int .i64)) := h
  rcases h'.2 with ⟨rfl, h0⟩ | ⟨g, cap, cur, rfl, hb, hg, hnc, hcm, hcs, htake⟩
  · exact ⟨none, 0, by rw [h0], hx, fun k hk => absurd hk (by omega)⟩
  · refine ⟨_, cap, rfl, hx, fun k hk => ⟨g, 0, rfl, ?_, ?_⟩⟩
    · exact (h'.lt g rfl).2
    · rw [Nat.zero_add, h'.cellAt k (by omega), List.getElem?_map, List.getElem?_eq_getElem hk]; rfl

/-- The marks from a number on. -/
def mk (k : Int) : Nat → List Int
  | 0 => []
  | n + 1 => mk k n ++ [k + n]
theorem mk_length (k : Int) : ∀ n, (mk k n).length = n
  | 0 => rfl
  | n + 1 => by show (mk k n ++ _).length = _; rw [List.length_append, mk_length k n]; rfl
theorem mk_get (k : Int) : ∀ n j, j < n → (mk k n)[j]? = some (k + j)
  | n + 1, j, h => by
    show (mk k n ++ [k + (n : Int)])[j]? = _
    by_cases e : j = n
    · subst e; rw [List.getElem?_append_right (by rw [mk_length]; exact Nat.le_refl _), mk_length]; simp
    · rw [List.getElem?_append_left (by rw [mk_length]; omega)]; exact mk_get k n j (by omega)

/-- A row whose first cells are marked. -/
def Marked (w : World) (lo : Nat) (v : Value) (n : Nat) (k : Int) (j : Nat) : Prop := ∃ xs, w.ownsRow lo 3 1 v n xs ∧ ∀ i, i < j → xs[i]? = some (.int .i64 (k + i))

end Go.Proofs.YtphmhlekfmkdkaaGreat
/-
  Data types that are marked where they lie; integers that are marked and looked at again. No statement is proved here.
-/
namespace Go.Proofs.YtphmhlekfmkdkaaGreat
open Go.RowKit
set_option maxRecDepth 100000
set_option linter.unusedVariables false

set_option maxHeartbeats 1600000 in
theorem markDataS_any (A : Option Addr) (l : List Da) (cap lo hi : Nat) (k : Int) (w : World) (hlo : lo ≤ w.heap.size) (hn : l.length ≤ 1048576) (ha : ∀ i (h : i < l.length), l[i].ctors.length ≤ 1048576 ∧ ∀ m (h' : m < l[i].ctors.length), l[i].ctors[m].args.length ≤ 1048576) (h0 : 1 ≤ k) (h1 : k + ((l.map mD).sum : Nat) ≤ 4194304) (hr : SDas w lo hi A l) :
    Calls Tryz.prog 25 #[.slice A l.length cap, .int .i64 k] w fun e w' => e = .returned (.int .i64 (k + ((l.map mD).sum : Nat))) ∧ Kept lo hi w w' := by
  have Hr := Lib.hid hr
  have HA := Lib.hid ha
  clear hr ha
  go_enter Tryz.func25, Tryz.ntmps25
  go_wp2_with fail
  go_loopw [1, 5] (fun q i wr => ∃ j : Nat, j ≤ l.length ∧ i = .int .i64 j ∧ ∃ S : Nat, q = .int .i64 (k + S) ∧ Hid (S = ((l.take j).map mD).sum) ∧ Kept lo hi w wr) (fun _ i _ => l.length - (intOf i).toNat)
  case atStart => exact ⟨0, by omega, rfl, 0, by simp, by unfold Hid; simp, Kept.refl _ _ _⟩
  case round =>
    obtain ⟨j, hj, rfl, S, rfl, HS, hk⟩ := hrel
    have HK := Lib.hid hk
    have hlw : lo ≤ wr.heap.size := Nat.le_trans hlo hk.1.size
    clear hk
    by_cases hlt : j < l.length
    · have HT := Lib.hid (sum_take_succ mD l j hlt)
      have HL := Lib.hid (sum_take_le mD l (j + 1))
      have HM : Hid (mD l[j] = 1 + (l[j].ctors.map mC).sum) := rfl
      have hma := (HA.out j hlt).1
      have hSb : k + (S : Int) + (1 + ((l[j].ctors.map mC).sum : Nat)) ≤ 4194304 := by
        have a1 := HT.out; have a2 := HL.out; have a3 := HM.out; have a4 := HS.out; omega
      obtain ⟨g, cs, rfl, hgl, hg, hc⟩ := (Hr.out.kept HK.out) (by omega)
      have hgw := heap_lt hg
      clear hg hc
      have hSh : ∀ W, Kept lo hi w W → ∃ (cs : Array Value) (s : ByteArray) (A' : Option Addr) (cp : Nat), W.heap[g]? = some (.cells cs 90 (0, 0)) ∧ cs[j * 2]? = some (.string s) ∧ cs[j * 2 + 1]? = some (.slice A' l[j].ctors.length cp) ∧ SCts W lo hi A' l[j].ctors := fun W hW => by
        obtain ⟨g', cs', e, _, hg', hc'⟩ := (Hr.out.kept hW) (by omega)
        cases e
        obtain ⟨s, A', cp, e0, e1, e3⟩ := hc' j hlt
        exact ⟨cs', s, A', cp, hg', e0, e1, e3⟩
      have HSh := Lib.hid hSh
      clear hSh
      go_wp2_with fail
      refine (markText_any _ _ (by omega) (by omega)).mono ?_
      rintro e w1 ⟨s1, rfl, _, hb1⟩
      have K1 := Lib.hid (HK.out.trans (Kept.below hb1 hlw))
      have hlw1 : lo ≤ w1.heap.size := Nat.le_trans hlw hb1.size
      obtain ⟨cs1, s0, A1, cp1, hg1, e0, e1, hty⟩ := HSh.out w1 K1.out
      have c0 := (cell_of_blk hg1 (j * 2)).trans e0
      have c1 := (cell_of_blk hg1 (j * 2 + 1)).trans e1
      have z0 := frozen_of_row w1 g (j * 2) cs1 90 hg1
      have K2 : Hid (Kept lo hi w1 (w1.setCell ⟨g, j * 2, none⟩ (.string s1))) := Kept.set hg1 hgl e0 (.inr (.inr ⟨_, _, rfl, rfl⟩))
      have HTy := Lib.hid (hty.kept K2.out)
      clear hg1 e0 e1 hty hb1
      go_wp2_with fail
      refine (markCtorS_any _ _ _ lo hi _ _ (by simpa using hlw1) hma (HA.out j hlt).2 (by omega) (by omega) HTy.out).mono ?_
      rintro e w2 ⟨rfl, hk3⟩
      have K3 := Lib.hid ((K1.out.trans K2.out).trans hk3)
      clear hk3 c0 c1 z0
      go_wp2_with fail
      go_roundw
      case rel => exact ⟨j + 1, by omega, by go_num, S + (1 + (l[j].ctors.map mC).sum), by congr 1; push_cast; omega, by unfold Hid; rw [HT.out, HM.out, HS.out], K3.out⟩
      case measure => simp [intOf]; omega
    · go_wp2_with fail
      go_ret
      exact ⟨ret_i64 (by rw [HS.out, List.take_of_length_le (by omega)]), HK.out⟩

/-- The marks lie there. -/
def RMk (w : World) (A : Option Addr) (n : Nat) (k : Int) : Prop := ∀ j, j < n → ∃ b off, A = some ⟨b, off, none⟩ ∧ b < w.heap.size ∧ w.cell? ⟨b, off + j, none⟩ = some (.int .i64 (k + j))
theorem RMk.at_ {w w' : World} {A : Option Addr} {n : Nat} {k : Int} (h : RMk w A n k) (hb : Below w.heap.size w w') : RMk w' A n k := fun j hj => by
  obtain ⟨b, off, e, hbl, h1⟩ := h j hj
  exact ⟨b, off, e, Nat.lt_of_lt_of_le hbl hb.size, (hb.cell (p := ⟨b, off + j, none⟩) hbl).trans h1⟩
theorem Marked.reads {w : World} {lo g n cap : Nat} {k : Int} (h : Marked w lo (.slice (some ⟨g, 0, none⟩) n cap) n k n) : RMk w (some ⟨g, 0, none⟩) n k := fun j hj => by
  obtain ⟨xs, ho, hx⟩ := h
  refine ⟨g, 0, rfl, own_lt ho, ?_⟩
  rw [Nat.zero_add, ho.cellAt j (by omega)]
  exact hx j hj

end Go.Proofs.YtphmhlekfmkdkaaGreat
/-
  A number looked for in a list; the index that a constructor makes. No statement is proved here.
-/
namespace Go.Proofs.YtphmhlekfmkdkaaGreat
open Go.RowKit
set_option maxRecDepth 100000
set_option linter.unusedVariables false

def NotIn (l : List Int) (x : Int) (k : Nat) : Prop := ∀ j (h : j < l.length), j < k → ¬ l[j] = x
theorem NotIn.zero (l : List Int) (x : Int) : NotIn l x 0 := fun j _ h => absurd h (by omega)
theorem NotIn.step {l : List Int} {x : Int} {k : Nat} (h : NotIn l x k) (hk : k < l.length) (e : ¬ l[k] = x) : NotIn l x (k + 1) := by
  intro j hj hjk
  by_cases e' : j = k
  · subst e'; exact e
  · exact h j hj (by omega)
theorem NotIn.all {l : List Int} {x : Int} {k : Nat} (h : NotIn l x k) (hk : l.length ≤ k) : ¬ x ∈ l := fun hx => by
  obtain ⟨j, hj, e⟩ := List.getElem_of_mem hx
  exact h j hj (by omega) e

theorem has_any (A : Option Addr) (l : List Int) (cap : Nat) (x : Int) (w : World) (hr : RInts w A l) :
    Calls Tryz.prog 126 #[.slice A l.length cap, .int .i64 x] w fun e w' => e = .returned (.bool (dec (x ∈ l))) ∧ w = w' := by
  have hn := hr.1
  unfold maxLen at hn
  have Hr := Lib.hid hr
  clear hr
  go_enter Tryz.func126, Tryz.ntmps126
  go_wp2_with fail
  go_loopw [5] (fun i wr => ∃ k : Nat, k ≤ l.length ∧ i = .int .i64 k ∧ NotIn l x k ∧ w = wr) (fun i _ => l.length - (intOf i).toNat)
  case atStart => exact ⟨0, by omega, rfl, NotIn.zero _ _, rfl⟩
  case round =>
    obtain ⟨k, hk, rfl, hno, rfl⟩ := hrel
    by_cases hlt : k < l.length
    · obtain ⟨b, off, rfl, _, c0⟩ := Hr.out.2 k hlt
      by_cases he : l[k] = x
      · have q := ieq_t he
        have HI : Hid (x ∈ l) := by rw [← he]; exact List.getElem_mem hlt
        clear he
        go_wp2_with fail
        go_ret
        exact ⟨ret_bool (dec_t HI.out).symm, rfl⟩
      · have q := ieq_f he
        have HN := Lib.hid (hno.step hlt he)
        clear he
        go_wp2_with fail
        go_roundw
        case rel => exact ⟨k + 1, by omega, by go_num, HN.out, trivial⟩
        case measure => simp [intOf]; omega
    · go_wp2_with fail
      go_ret
      exact ⟨ret_bool (dec_f (hno.all (by omega))).symm, rfl⟩

theorem index_any (A : Option Addr) (l : List Int) (cap : Nat) (x : Int) (w : World) (hr : RInts w A l) :
    Calls Tryz.prog 163 #[.slice A l.length cap, .int .i64 x] w fun e w' => ∃ r : Int, e = .returned (.int .i64 r) ∧ decide (0 ≤ r) = dec (x ∈ l) ∧ w = w' := by
  have hn := hr.1
  unfold maxLen at hn
  have Hr := Lib.hid hr
  clear hr
  go_enter Tryz.func163, Tryz.ntmps163
  go_wp2_with fail
  go_loopw [8] (fun i wr => ∃ k : Nat, k ≤ l.length ∧ i = .int .i64 k ∧ NotIn l x k ∧ w = wr) (fun i _ => l.length - (intOf i).toNat)
  case atStart => exact ⟨0, by omega, rfl, NotIn.zero _ _, rfl⟩
  case round =>
    obtain ⟨k, hk, rfl, hno, rfl⟩ := hrel
    by_cases hlt : k < l.length
    · obtain ⟨b, off, rfl, _, c0⟩ := Hr.out.2 k hlt
      by_cases he : l[k] = x
      · have q := ieq_t he.symm
        have HI : Hid (x ∈ l) := by rw [← he]; exact List.getElem_mem hlt
        clear he
        go_wp2_with fail
        go_ret
        exact ⟨_, rfl, by rw [dec_t HI.out]; simp, rfl⟩
      · have q := ieq_f (fun e => he e.symm)
        have HN := Lib.hid (hno.step hlt he)
        clear he
        go_wp2_with fail
        go_roundw
        case rel => exact ⟨k + 1, by omega, by go_num, HN.out, trivial⟩
        case measure => simp [intOf]; omega
    · go_wp2_with fail
      go_ret
      exact ⟨_, rfl, by rw [dec_f (hno.all (by omega))]; rfl, rfl⟩

theorem contains_any (A : Option Addr) (l : List Int) (cap : Nat) (x : Int) (w : World) (hr : RInts w A l) :
    Calls Tryz.prog 129 #[.slice A l.length cap, .int .i64 x] w fun e w' => e = .returned (.bool (dec (x ∈ l))) ∧ w = w' := by
  have Hr := Lib.hid hr
  clear hr
  go_enter Tryz.func129, Tryz.ntmps129
  go_wp2_with (go_at_call 163; refine (index_any _ _ _ _ _ Hr.out).mono ?_; rintro e w1 ⟨r, rfl, hd, rfl⟩; have HD := Lib.hid hd; clear hd)
  go_ret
  exact ⟨ret_bool HD.out, rfl⟩

/-- The index of what a constructor makes for a type of an index. -/
def resI (a ix : Int) : Int := if a = 0 then ix else a
theorem result_any (nm : ByteArray) (A : Option Addr) (n cap : Nat) (a ix : Int) (w : World) :
    Calls Tryz.prog 162 #[.agg #[.string nm, .slice A n cap, .int .i64 a], .int .i64 ix] w fun e w' => e = .returned (.int .i64 (resI a ix)) ∧ Below w.heap.size w w' := by
  have HB : Hid (∀ o : Obj, Below w.heap.size w (w.alloc o)) := fun o => (Below.refl _ _).alloc (Nat.le_refl _) _
  by_cases h : a = 0
  · have q := ieq_t h
    have H : Hid (resI a ix = ix) := if_pos h
    clear h
    go_enter Tryz.func162, Tryz.ntmps162
    go_wp2_with fail
    go_ret
    exact ⟨ret_i64 H.out.symm, HB.out _⟩
  · have q := ieq_f h
    have H : Hid (resI a ix = a) := if_neg h
    clear h
    go_enter Tryz.func162, Tryz.ntmps162
    go_wp2_with fail
    go_ret
    exact ⟨ret_i64 H.out.symm, HB.out _⟩

def argOf (c : Ct) (ix : Int) (a : Ty) : Ty := if a.index = -1 then ⟨a.data, resI c.index ix⟩ else a
def argT (c : Ct) (ix : Int) : List Ty := c.args.map (argOf c ix)
theorem argT_len (c : Ct) (ix : Int) : (argT c ix).length = c.args.length := List.length_map _
theorem argT_get (c : Ct) (ix : Int) (k : Nat) (h : k < c.args.length) (h' : k < (argT c ix).length) : (argT c ix)[k] = argOf c ix c.args[k] := by simp [argT]
/-- Types in a row of the call's own, the first k of a list. -/
def OTys (w : World) (lo : Nat) (v : Value) (l : List Ty) (k : Nat) : Prop := ∃ xs, w.ownsRow lo 31 2 v k xs ∧ TyRow l xs k
theorem TyRow.snoc {l : List Ty} {xs : List Value} {k : Nat} (h : TyRow l xs k) (hk : k < l.length) (hx : xs.length = k * 2) : TyRow l (xs ++ [.int .i64 l[k].data, .int .i64 l[k].index]) (k + 1) := by
  intro j hj hjk
  by_cases e : j = k
  · subst e
    constructor
    · rw [List.getElem?_append_right (by omega), hx]; simp
    · rw [List.getElem?_append_right (by omega), hx]; simp
  · obtain ⟨a, b⟩ := h j hj (by omega)
    constructor
    · rw [List.getElem?_append_left (by omega)]; exact a
    · rw [List.getElem?_append_left (by omega)]; exact b
theorem OTys.form {w : World} {lo : Nat} {v : Value} {l : List Ty} (h : OTys w lo v l l.length) (hl : l.length ≤ maxLen) : ∃ A cap, v = .slice A l.length cap ∧ RTys w w.heap.size A l := by
  obtain ⟨xs, ho, hx⟩ := h
  rcases ho.2 with ⟨rfl, h0⟩ | ⟨g, cap, cur, rfl, hb, hg, hnc, hcm, hcs, htake⟩
  · exact ⟨none, 0, by rw [h0], hl, fun k hk => absurd hk (by omega)⟩
  · refine ⟨_, cap, rfl, hl, fun k hk => ⟨g, 0, rfl, own_lt ho, ?_, ?_⟩⟩
    · rw [Nat.zero_add, ho.cellAt (k * 2) (by omega)]; exact (hx k hk hk).1
    · rw [Nat.zero_add, ho.cellAt (k * 2 + 1) (by omega)]; exact (hx k hk hk).2
theorem OTys.lower {w : World} {lo lo' : Nat} {v : Value} {l : List Ty} {k : Nat} (h : OTys w lo v l k) (hl : lo' ≤ lo) : OTys w lo' v l k := by
  obtain ⟨xs, ho, hx⟩ := h
  refine ⟨xs, ⟨ho.1, ?_⟩, hx⟩
  rcases ho.2 with h0 | ⟨g, cap, cur, a1, a2, a3⟩
  · exact .inl h0
  · exact .inr ⟨g, cap, cur, a1, by omega, a3⟩
end Go.Proofs.YtphmhlekfmkdkaaGreat
