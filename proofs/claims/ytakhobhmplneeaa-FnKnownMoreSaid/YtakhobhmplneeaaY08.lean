/-
  A number looked for in a list; the index that a constructor makes. No statement is proved here.
-/
import Derived.Test.YtakhobhmplneeaaY06
import Derived.Test.YtakhobhmplneeaaY00
import Derived.Test.YtakhobhmplneeaaY07
namespace Go.Proofs.Ytakhobhmplneeaa
open Go.RowKit
set_option maxRecDepth 100000
set_option linter.unusedVariables false
def NotIn (l : List Int) (x : Int) (k : Nat) : Prop := ∀ j (h : j < l.length), j < k → ¬ l[j] = x
theorem NotIn.zero (l : List Int) (x : Int) : NotIn l x 0 := fun j _ h => absurd h (by omega)
theorem NotIn.step {l : List Int} {x : Int} {k : Nat} (h : NotIn l x k) (hk : k < l.length) (e : ¬ l[k] = x) : NotIn l x (k + 1) := by
  intro j hj hjk
  by_cases e' : j = k
  · subst e'; exact e
  · exact h j hj (by omega)
theorem NotIn.all {l : List Int} {x : Int} {k : Nat} (h : NotIn l x k) (hk : l.length ≤ k) : ¬ x ∈ l := fun hx => by
  obtain ⟨j, hj, e⟩ := List.getElem_of_mem hx
  exact h j hj (by omega) e
theorem has_any (A : Option Addr) (l : List Int) (cap : Nat) (x : Int) (w : World) (hr : RInts w A l) :
    Calls Try.prog 77 #[.slice A l.length cap, .int .i64 x] w fun e w' => e = .returned (.bool (dec (x ∈ l))) ∧ w = w' := by
  have hn := hr.1
  unfold maxLen at hn
  have Hr := Lib.hid hr
  clear hr
  go_enter Try.func77, Try.ntmps77
  go_wp2_with fail
  go_loopw [5] (fun i wr => ∃ k : Nat, k ≤ l.length ∧ i = .int .i64 k ∧ NotIn l x k ∧ w = wr) (fun i _ => l.length - (intOf i).toNat)
  case atStart => exact ⟨0, by omega, rfl, NotIn.zero _ _, rfl⟩
  case round =>
    obtain ⟨k, hk, rfl, hno, rfl⟩ := hrel
    by_cases hlt : k < l.length
    · obtain ⟨b, off, rfl, _, c0⟩ := Hr.out.2 k hlt
      by_cases he : l[k] = x
      · have q := ieq_t he
        have HI : Hid (x ∈ l) := by rw [← he]; exact List.getElem_mem hlt
        clear he
        go_wp2_with fail
        go_ret
        exact ⟨ret_bool (dec_t HI.out).symm, rfl⟩
      · have q := ieq_f he
        have HN := Lib.hid (hno.step hlt he)
        clear he
        go_wp2_with fail
        go_roundw
        case rel => exact ⟨k + 1, by omega, by go_num, HN.out, trivial⟩
        case measure => simp [intOf]; omega
    · go_wp2_with fail
      go_ret
      exact ⟨ret_bool (dec_f (hno.all (by omega))).symm, rfl⟩
theorem index_any (A : Option Addr) (l : List Int) (cap : Nat) (x : Int) (w : World) (hr : RInts w A l) :
    Calls Try.prog 81 #[.slice A l.length cap, .int .i64 x] w fun e w' => ∃ r : Int, e = .returned (.int .i64 r) ∧ decide (0 ≤ r) = dec (x ∈ l) ∧ w = w' := by
  have hn := hr.1
  unfold maxLen at hn
  have Hr := Lib.hid hr
  clear hr
  go_enter Try.func81, Try.ntmps81
  go_wp2_with fail
  go_loopw [8] (fun i wr => ∃ k : Nat, k ≤ l.length ∧ i = .int .i64 k ∧ NotIn l x k ∧ w = wr) (fun i _ => l.length - (intOf i).toNat)
  case atStart => exact ⟨0, by omega, rfl, NotIn.zero _ _, rfl⟩
  case round =>
    obtain ⟨k, hk, rfl, hno, rfl⟩ := hrel
    by_cases hlt : k < l.length
    · obtain ⟨b, off, rfl, _, c0⟩ := Hr.out.2 k hlt
      by_cases he : l[k] = x
      · have q := ieq_t he.symm
        have HI : Hid (x ∈ l) := by rw [← he]; exact List.getElem_mem hlt
        clear he
        go_wp2_with fail
        go_ret
        exact ⟨_, rfl, by rw [dec_t HI.out]; simp, rfl⟩
      · have q := ieq_f (fun e => he e.symm)
        have HN := Lib.hid (hno.step hlt he)
        clear he
        go_wp2_with fail
        go_roundw
        case rel => exact ⟨k + 1, by omega, by go_num, HN.out, trivial⟩
        case measure => simp [intOf]; omega
    · go_wp2_with fail
      go_ret
      exact ⟨_, rfl, by rw [dec_f (hno.all (by omega))]; rfl, rfl⟩
theorem contains_any (A : Option Addr) (l : List Int) (cap : Nat) (x : Int) (w : World) (hr : RInts w A l) :
    Calls Try.prog 58 #[.slice A l.length cap, .int .i64 x] w fun e w' => e = .returned (.bool (dec (x ∈ l))) ∧ w = w' := by
  have Hr := Lib.hid hr
  clear hr
  go_enter Try.func58, Try.ntmps58
  go_wp2_with (go_at_call 81; refine (index_any _ _ _ _ _ Hr.out).mono ?_; rintro e w1 ⟨r, rfl, hd, rfl⟩; have HD := Lib.hid hd; clear hd)
  go_ret
  exact ⟨ret_bool HD.out, rfl⟩
/-- The index of what a constructor makes for a type of an index. -/
def resI (a ix : Int) : Int := if a = 0 then ix else a
theorem result_any (nm : ByteArray) (A : Option Addr) (n cap : Nat) (a ix : Int) (w : World) :
    Calls Try.prog 70 #[.agg #[.string nm, .slice A n cap, .int .i64 a], .int .i64 ix] w fun e w' => e = .returned (.int .i64 (resI a ix)) ∧ Below w.heap.size w w' := by
  have HB : Hid (∀ o : Obj, Below w.heap.size w (w.alloc o)) := fun o => (Below.refl _ _).alloc (Nat.le_refl _) _
  by_cases h : a = 0
  · have q := ieq_t h
    have H : Hid (resI a ix = ix) := if_pos h
    clear h
    go_enter Try.func70, Try.ntmps70
    go_wp2_with fail
    go_ret
    exact ⟨ret_i64 H.out.symm, HB.out _⟩
  · have q := ieq_f h
    have H : Hid (resI a ix = a) := if_neg h
    clear h
    go_enter Try.func70, Try.ntmps70
    go_wp2_with fail
    go_ret
    exact ⟨ret_i64 H.out.symm, HB.out _⟩
def argOf (c : Ct) (ix : Int) (a : Ty) : Ty := if a.index = -1 then ⟨a.data, resI c.index ix⟩ else a
def argT (c : Ct) (ix : Int) : List Ty := c.args.map (argOf c ix)
theorem argT_len (c : Ct) (ix : Int) : (argT c ix).length = c.args.length := List.length_map _
theorem argT_get (c : Ct) (ix : Int) (k : Nat) (h : k < c.args.length) (h' : k < (argT c ix).length) : (argT c ix)[k] = argOf c ix c.args[k] := by simp [argT]
/-- Types in a row of the call's own, the first k of a list. -/
def OTys (w : World) (lo : Nat) (v : Value) (l : List Ty) (k : Nat) : Prop := ∃ xs, w.ownsRow lo 25 2 v k xs ∧ TyRow l xs k
theorem TyRow.snoc {l : List Ty} {xs : List Value} {k : Nat} (h : TyRow l xs k) (hk : k < l.length) (hx : xs.length = k * 2) : TyRow l (xs ++ [.int .i64 l[k].data, .int .i64 l[k].index]) (k + 1) := by
  intro j hj hjk
  by_cases e : j = k
  · subst e
    constructor
    · rw [List.getElem?_append_right (by omega), hx]; simp
    · rw [List.getElem?_append_right (by omega), hx]; simp
  · obtain ⟨a, b⟩ := h j hj (by omega)
    constructor
    · rw [List.getElem?_append_left (by omega)]; exact a
    · rw [List.getElem?_append_left (by omega)]; exact b
theorem OTys.form {w : World} {lo : Nat} {v : Value} {l : List Ty} (h : OTys w lo v l l.length) (hl : l.length ≤ maxLen) : ∃ A cap, v = .slice A l.length cap ∧ RTys w w.heap.size A l := by
  obtain ⟨xs, ho, hx⟩ := h
  rcases ho.2 with ⟨rfl, h0⟩ | ⟨g, cap, cur, rfl, hb, hg, hnc, hcm, hcs, htake⟩
  · exact ⟨none, 0, by rw [h0], hl, fun k hk => absurd hk (by omega)⟩
  · refine ⟨_, cap, rfl, hl, fun k hk => ⟨g, 0, rfl, own_lt ho, ?_, ?_⟩⟩
    · rw [Nat.zero_add, ho.cellAt (k * 2) (by omega)]; exact (hx k hk hk).1
    · rw [Nat.zero_add, ho.cellAt (k * 2 + 1) (by omega)]; exact (hx k hk hk).2
theorem OTys.lower {w : World} {lo lo' : Nat} {v : Value} {l : List Ty} {k : Nat} (h : OTys w lo v l k) (hl : lo' ≤ lo) : OTys w lo' v l k := by
  obtain ⟨xs, ho, hx⟩ := h
  refine ⟨xs, ⟨ho.1, ?_⟩, hx⟩
  rcases ho.2 with h0 | ⟨g, cap, cur, a1, a2, a3⟩
  · exact .inl h0
  · exact .inr ⟨g, cap, cur, a1, by omega, a3⟩
end Go.Proofs.Ytakhobhmplneeaa
/-
  The types of the arguments of a constructor: the program's function. No statement is proved here.
-/
namespace Go.Proofs.Ytakhobhmplneeaa
open Go.RowKit
set_option maxRecDepth 100000
set_option linter.unusedVariables false
theorem argOf_same {c : Ct} {ix : Int} {a : Ty} (h : a.index = -1) : argOf c ix a = ⟨a.data, resI c.index ix⟩ := if_pos h
theorem argOf_other {c : Ct} {ix : Int} {a : Ty} (h : ¬ a.index = -1) : argOf c ix a = a := if_neg h
/-- What is stored for the element in place k. -/
theorem row_step {c : Ct} {ix : Int} {xs : List Value} {k : Nat} (h : TyRow (argT c ix) xs k) (hk : k < c.args.length) (hx : xs.length = c.args.length * 2) {u0 u1 : Int} (h0 : u0 = (argOf c ix c.args[k]).data) (h1 : u1 = (argOf c ix c.args[k]).index) :
    TyRow (argT c ix) ((xs.set (k * 2) (.int .i64 u0)).set (k * 2 + 1) (.int .i64 u1)) (k + 1) := by
  have hk' : k < (argT c ix).length := by rw [argT_len]; exact hk
  have := h.step hk' (by rw [argT_len]; exact hx)
  rw [argT_get c ix k hk hk'] at this
  rw [h0, h1]
  exact this
set_option maxHeartbeats 1600000 in
theorem argTypes_data (A : Option Addr) (l : List Da) (cap d m : Nat) (ix : Int) (hd : d < l.length) (hm : m < l[d].ctors.length) (h3 : l[d].ctors[m].args.length ≤ 3) (w : World) (hr : RDas w w.heap.size A l) :
    Calls Try.prog 60 #[.slice A l.length cap, .agg #[.int .i64 d, .int .i64 ix], .int .i64 m] w fun e w' => ∃ v, e = .returned v ∧ OTys w' w.heap.size v (argT l[d].ctors[m] ix) (argT l[d].ctors[m] ix).length ∧ Below w.heap.size w w' := by
  obtain ⟨i0, hi, hz0, hz1, hz2⟩ := info_parts info34
  have hn := hr.1
  unfold maxLen at hn
  obtain ⟨b, off, rfl, hbB, A', cp, c0, c1, hszd, hmd⟩ := hr.2 d hd
  have hnc := hmd.1
  unfold maxLen at hnc
  obtain ⟨g, o, rfl, hgB, D1, ep, e0, e1, e2, hszm, hmm⟩ := hmd.2 m hm
  have HMM := Lib.hid hmm
  clear hr hmd hmm
  have hdI : (d : Int) < (l.length : Int) := by omega
  have hmI : (m : Int) < (l[d].ctors.length : Int) := by omega
  have C1 : ∀ x, (w.alloc x).cell? ⟨b, off + d * 2 + 1, none⟩ = some (.slice (some ⟨g, o, none⟩) l[d].ctors.length cp) := fun x => (World.cell?_alloc_lt _ _ _ hbB).trans c1
  have E0 : ∀ x, (w.alloc x).cell? ⟨g, o + m * 3, none⟩ = some (.string l[d].ctors[m].name) := fun x => (World.cell?_alloc_lt _ _ _ hgB).trans e0
  have E1 : ∀ x, (w.alloc x).cell? ⟨g, o + m * 3 + 1, none⟩ = some (.slice D1 l[d].ctors[m].args.length ep) := fun x => (World.cell?_alloc_lt _ _ _ hgB).trans e1
  have E2 : ∀ x, (w.alloc x).cell? ⟨g, o + m * 3 + 2, none⟩ = some (.int .i64 l[d].ctors[m].index) := fun x => (World.cell?_alloc_lt _ _ _ hgB).trans e2
  clear c0 c1 e0 e1 e2
  have hL : (argT l[d].ctors[m] ix).length = l[d].ctors[m].args.length := argT_len _ _
  have HL := Lib.hid hL
  clear hL
  by_cases ha : l[d].ctors[m].index = 0
  · have q := ieq_t ha
    have HR : Hid (ix = resI l[d].ctors[m].index ix) := (if_pos ha).symm
    clear ha
    go_enter Try.func60, Try.ntmps60
    go_wp2_with (at_make; refine wpList_make_full _ rfl _ _ 89 rfl w.heap.size 25 i0 _ 2 Try.underlying89 hi hz0 hz1 _ _ _ _ l[d].ctors[m].args.length rfl rfl rfl rfl (by rw [hz2]; omega) (by unfold maxLen; omega) (by simp; omega) ?_; intro w1 hown0 hgr; have k1 : w1.cell? ⟨w.heap.size + 1, 1, none⟩ = some (.slice D1 l[d].ctors[m].args.length ep) := (World.cell?_of_block (a := ⟨w.heap.size + 1, 1, none⟩) (hgr.block (w.heap.size + 1) (by simp) (by simp))).trans (by simp [go_sem]))
    simp only [World.size_alloc] at hown0
    have hbw : Below w.heap.size w w1 := (((Below.refl _ _).alloc (Nat.le_refl _) _).alloc (by simp) _).grown hgr (by simp; omega) (fun k e => by cases e)
    clear hgr hi hz0 hz1 hz2 C1 E0 E1 E2 k1
    go_loopw [34] (fun i wr => ∃ k : Nat, k ≤ l[d].ctors[m].args.length ∧ i = .int .i64 k ∧ ∃ xs, wr.ownsRow w.heap.size 25 2 (.slice (some ⟨w.heap.size + 1 + 1, 0, none⟩) l[d].ctors[m].args.length l[d].ctors[m].args.length) l[d].ctors[m].args.length xs ∧ TyRow (argT l[d].ctors[m] ix) xs k ∧ Below w.heap.size w wr) (fun i _ => l[d].ctors[m].args.length - (intOf i).toNat)
    case atStart => exact ⟨0, by omega, rfl, _, hown0, TyRow.zero _ _, hbw⟩
    case round =>
      obtain ⟨k, hk, rfl, xs, hown, hrow, hb⟩ := hrel
      have hlw := hb.size
      clear hown0 hbw
      by_cases hlt : k < l[d].ctors[m].args.length
      · obtain ⟨b2, off2, rfl, hbB2, y0, y1⟩ := (HMM.out.below hb (Nat.le_refl _)).2 k hlt
        have hown2 : ∀ x, (wr.alloc x).ownsRow w.heap.size 25 2 (.slice (some ⟨w.heap.size + 1 + 1, 0, none⟩) l[d].ctors[m].args.length l[d].ctors[m].args.length) l[d].ctors[m].args.length xs := fun x => hown.alloc x
        have hgl := own_lt hown
        obtain ⟨v0, g0⟩ := own_cell hown (k * 2) (by omega)
        obtain ⟨v1, g1⟩ := own_cell hown (k * 2 + 1) (by omega)
        have f0 : ∀ x, (wr.alloc x).cell? ⟨w.heap.size + 1 + 1, k * 2, none⟩ = some v0 := fun x => (World.cell?_alloc_lt _ _ _ hgl).trans g0
        have f1 : ∀ x, (wr.alloc x).cell? ⟨w.heap.size + 1 + 1, k * 2 + 1, none⟩ = some v1 := fun x => (World.cell?_alloc_lt _ _ _ hgl).trans g1
        have HO2 := Lib.hid hown2
        have z0 : ∀ x, (wr.alloc x).frozen? ⟨w.heap.size + 1 + 1, k * 2, none⟩ = false := fun x => (hown2 x).frozenAt (k * 2)
        have z1 : ∀ x, (wr.alloc x).frozen? ⟨w.heap.size + 1 + 1, k * 2 + 1, none⟩ = false := fun x => (hown2 x).frozenAt (k * 2 + 1)
        have zz0 := hown.frozenAt (k * 2)
        have zz1 := hown.frozenAt (k * 2 + 1)
        have hxl := hown.1
        have HO := Lib.hid hown
        clear hown2 hown
        by_cases hs : l[d].ctors[m].args[k].index = -1
        · have qs := ieq_t hs
          have HA := Lib.hid (argOf_same (c := l[d].ctors[m]) (ix := ix) hs)
          clear hs
          go_wp2_with fail
          have s1 := (HO.out.stored (k * 2) (.int .i64 l[d].ctors[m].args[k].data)).1
          have s2 := (s1.stored (k * 2 + 1) (.int .i64 ix)).1
          have hrow2 := row_step hrow hlt hxl (u0 := l[d].ctors[m].args[k].data) (u1 := ix) (by rw [HA.out]) (by rw [HA.out]; exact HR.out)
          go_roundw
          case rel => exact ⟨k + 1, by omega, by go_num, _, s2.alloc _, hrow2, ((hb.setCell (by simp; omega) _).setCell (by simp; omega) _).alloc (by simp; omega) _⟩
          case measure => simp [intOf]; omega
        · have qs := ieq_f hs
          have HA := Lib.hid (argOf_other (c := l[d].ctors[m]) (ix := ix) hs)
          clear hs
          go_wp2_with fail
          have s1 := (HO.out.stored (k * 2) (.int .i64 l[d].ctors[m].args[k].data)).1
          have s2 := (s1.stored (k * 2 + 1) (.int .i64 l[d].ctors[m].args[k].index)).1
          have hrow2 := row_step hrow hlt hxl (u0 := l[d].ctors[m].args[k].data) (u1 := l[d].ctors[m].args[k].index) (by rw [HA.out]) (by rw [HA.out])
          go_roundw
          case rel => exact ⟨k + 1, by omega, by go_num, _, s2.alloc _, hrow2, ((hb.setCell (by simp; omega) _).setCell (by simp; omega) _).alloc (by simp; omega) _⟩
          case measure => simp [intOf]; omega
      · have he : k = l[d].ctors[m].args.length := by omega
        have HT : Hid (TyRow (argT l[d].ctors[m] ix) xs l[d].ctors[m].args.length) := by rw [← he]; exact hrow
        have HO := Lib.hid hown
        clear he hown hrow
        go_wp2_with fail
        go_ret
        exact ⟨_, rfl, ⟨xs, by rw [HL.out]; exact HO.out, by rw [HL.out]; exact HT.out⟩, hb⟩
  · have q := ieq_f ha
    have HR : Hid (l[d].ctors[m].index = resI l[d].ctors[m].index ix) := (if_neg ha).symm
    clear ha
    go_enter Try.func60, Try.ntmps60
    go_wp2_with (at_make; refine wpList_make_full _ rfl _ _ 89 rfl w.heap.size 25 i0 _ 2 Try.underlying89 hi hz0 hz1 _ _ _ _ l[d].ctors[m].args.length rfl rfl rfl rfl (by rw [hz2]; omega) (by unfold maxLen; omega) (by simp; omega) ?_; intro w1 hown0 hgr; have k1 : w1.cell? ⟨w.heap.size + 1, 1, none⟩ = some (.slice D1 l[d].ctors[m].args.length ep) := (World.cell?_of_block (a := ⟨w.heap.size + 1, 1, none⟩) (hgr.block (w.heap.size + 1) (by simp) (by simp))).trans (by simp [go_sem]))
    simp only [World.size_alloc] at hown0
    have hbw : Below w.heap.size w w1 := (((Below.refl _ _).alloc (Nat.le_refl _) _).alloc (by simp) _).grown hgr (by simp; omega) (fun k e => by cases e)
    clear hgr hi hz0 hz1 hz2 C1 E0 E1 E2 k1
    go_loopw [34] (fun i wr => ∃ k : Nat, k ≤ l[d].ctors[m].args.length ∧ i = .int .i64 k ∧ ∃ xs, wr.ownsRow w.heap.size 25 2 (.slice (some ⟨w.heap.size + 1 + 1, 0, none⟩) l[d].ctors[m].args.length l[d].ctors[m].args.length) l[d].ctors[m].args.length xs ∧ TyRow (argT l[d].ctors[m] ix) xs k ∧ Below w.heap.size w wr) (fun i _ => l[d].ctors[m].args.length - (intOf i).toNat)
    case atStart => exact ⟨0, by omega, rfl, _, hown0, TyRow.zero _ _, hbw⟩
    case round =>
      obtain ⟨k, hk, rfl, xs, hown, hrow, hb⟩ := hrel
      have hlw := hb.size
      clear hown0 hbw
      by_cases hlt : k < l[d].ctors[m].args.length
      · obtain ⟨b2, off2, rfl, hbB2, y0, y1⟩ := (HMM.out.below hb (Nat.le_refl _)).2 k hlt
        have hown2 : ∀ x, (wr.alloc x).ownsRow w.heap.size 25 2 (.slice (some ⟨w.heap.size + 1 + 1, 0, none⟩) l[d].ctors[m].args.length l[d].ctors[m].args.length) l[d].ctors[m].args.length xs := fun x => hown.alloc x
        have hgl := own_lt hown
        obtain ⟨v0, g0⟩ := own_cell hown (k * 2) (by omega)
        obtain ⟨v1, g1⟩ := own_cell hown (k * 2 + 1) (by omega)
        have f0 : ∀ x, (wr.alloc x).cell? ⟨w.heap.size + 1 + 1, k * 2, none⟩ = some v0 := fun x => (World.cell?_alloc_lt _ _ _ hgl).trans g0
        have f1 : ∀ x, (wr.alloc x).cell? ⟨w.heap.size + 1 + 1, k * 2 + 1, none⟩ = some v1 := fun x => (World.cell?_alloc_lt _ _ _ hgl).trans g1
        have HO2 := Lib.hid hown2
        have z0 : ∀ x, (wr.alloc x).frozen? ⟨w.heap.size + 1 + 1, k * 2, none⟩ = false := fun x => (hown2 x).frozenAt (k * 2)
        have z1 : ∀ x, (wr.alloc x).frozen? ⟨w.heap.size + 1 + 1, k * 2 + 1, none⟩ = false := fun x => (hown2 x).frozenAt (k * 2 + 1)
        have zz0 := hown.frozenAt (k * 2)
        have zz1 := hown.frozenAt (k * 2 + 1)
        have hxl := hown.1
        have HO := Lib.hid hown
        clear hown2 hown
        by_cases hs : l[d].ctors[m].args[k].index = -1
        · have qs := ieq_t hs
          have HA := Lib.hid (argOf_same (c := l[d].ctors[m]) (ix := ix) hs)
          clear hs
          go_wp2_with fail
          have s1 := (HO.out.stored (k * 2) (.int .i64 l[d].ctors[m].args[k].data)).1
          have s2 := (s1.stored (k * 2 + 1) (.int .i64 l[d].ctors[m].index)).1
          have hrow2 := row_step hrow hlt hxl (u0 := l[d].ctors[m].args[k].data) (u1 := l[d].ctors[m].index) (by rw [HA.out]) (by rw [HA.out]; exact HR.out)
          go_roundw
          case rel => exact ⟨k + 1, by omega, by go_num, _, s2.alloc _, hrow2, ((hb.setCell (by simp; omega) _).setCell (by simp; omega) _).alloc (by simp; omega) _⟩
          case measure => simp [intOf]; omega
        · have qs := ieq_f hs
          have HA := Lib.hid (argOf_other (c := l[d].ctors[m]) (ix := ix) hs)
          clear hs
          go_wp2_with fail
          have s1 := (HO.out.stored (k * 2) (.int .i64 l[d].ctors[m].args[k].data)).1
          have s2 := (s1.stored (k * 2 + 1) (.int .i64 l[d].ctors[m].args[k].index)).1
          have hrow2 := row_step hrow hlt hxl (u0 := l[d].ctors[m].args[k].data) (u1 := l[d].ctors[m].args[k].index) (by rw [HA.out]) (by rw [HA.out])
          go_roundw
          case rel => exact ⟨k + 1, by omega, by go_num, _, s2.alloc _, hrow2, ((hb.setCell (by simp; omega) _).setCell (by simp; omega) _).alloc (by simp; omega) _⟩
          case measure => simp [intOf]; omega
      · have he : k = l[d].ctors[m].args.length := by omega
        have HT : Hid (TyRow (argT l[d].ctors[m] ix) xs l[d].ctors[m].args.length) := by rw [← he]; exact hrow
        have HO := Lib.hid hown
        clear he hown hrow
        go_wp2_with fail
        go_ret
        exact ⟨_, rfl, ⟨xs, by rw [HL.out]; exact HO.out, by rw [HL.out]; exact HT.out⟩, hb⟩
end Go.Proofs.Ytakhobhmplneeaa
