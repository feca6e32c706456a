/-
  The text of a world: the document's function. No statement is proved here.
-/
import Derived.Test.YteoopmogklpnoaaT15
import Derived.Test.YteoopmogklpnoaaT11
namespace Go.Proofs.Yteoopmogklpnoaa
open Go.RowKit Go.Deep
set_option maxRecDepth 100000
set_option linter.unusedVariables false
theorem name_five {s : ByteArray} (h : nameB s = true) : s.size ≤ 5 := by
  by_cases h5 : s.size ≤ 5
  · exact h5
  · have := name_long (s := s) (by omega); rw [h] at this; cases this
theorem ct_in {n : Nat} {c : Ct} (h : ctorB n c = true) : CtIn n c := by
  obtain ⟨h1, h2⟩ := ctor_parts h
  have hn : nameB c.name = true ∧ c.args.length ≤ 3 := by
    unfold ctorB at h
    simp only [Bool.and_eq_true, decide_eq_true_eq] at h
    exact ⟨h.1, h.2.1⟩
  have := name_five hn.1
  refine ⟨by omega, hn.2, h1.1, h1.2, fun a ha => ?_⟩
  have hB := h2 a ha
  by_cases hb : a.data = -1
  · rw [argB_int hb] at hB
    have : a.index = 0 := of_decide_eq_true hB
    exact ⟨.inl hb, by omega, by omega⟩
  · rw [argB_data hb] at hB
    have := of_decide_eq_true hB
    exact ⟨.inr ⟨this.1, this.2.1⟩, this.2.2.1, this.2.2.2⟩
theorem world_ct_in {l : List Da} (h : WorldOK l) {d m : Nat} (hd : d < l.length) (hm : m < l[d].ctors.length) : CtIn l.length l[d].ctors[m] := ct_in (world_ctor h hd hm)
theorem world_short {l : List Da} (h : WorldOK l) : Short l := fun d hd => by
  have h1 := h.2.1 d hd hd
  unfold dataB dnameB at h1
  simp only [Bool.and_eq_true, decide_eq_true_eq] at h1
  omega
theorem world_four {l : List Da} (h : WorldOK l) {d : Nat} (hd : d < l.length) : l[d].ctors.length ≤ 4 := (data_len4 (h.2.1 d hd hd)).2
def ctsAcc (l : List Da) (base : ByteArray) (cs : List Ct) : Nat → ByteArray
  | 0 => base
  | k + 1 => (if k = 0 then ctsAcc l base cs k else ctsAcc l base cs k ++ ⟨#[124]⟩) ++ ctT l (cs.getD k default)
def headT (base : ByteArray) (d : Da) (k : Nat) : ByteArray := ((if k = 0 then base else base ++ ⟨#[59]⟩) ++ d.name) ++ ⟨#[61]⟩
def wAcc (l : List Da) : Nat → ByteArray
  | 0 => ⟨#[]⟩
  | k + 1 => ctsAcc l (headT (wAcc l k) (l.getD k default) k) (l.getD k default).ctors (l.getD k default).ctors.length
/-- The text of a world. -/
def wT (l : List Da) : ByteArray := wAcc l l.length
theorem ctsAcc_at {l : List Da} {base : ByteArray} {cs : List Ct} {k : Nat} (h : k < cs.length) : ctsAcc l base cs (k + 1) = (if k = 0 then ctsAcc l base cs k else ctsAcc l base cs k ++ ⟨#[124]⟩) ++ ctT l cs[k] := by
  have e : cs.getD k default = cs[k] := by simp [List.getD, List.getElem?_eq_getElem h]
  show (if k = 0 then ctsAcc l base cs k else ctsAcc l base cs k ++ ⟨#[124]⟩) ++ ctT l (cs.getD k default) = _
  rw [e]
theorem wAcc_at {l : List Da} {k : Nat} (h : k < l.length) : wAcc l (k + 1) = ctsAcc l (headT (wAcc l k) l[k] k) l[k].ctors l[k].ctors.length := by
  have e : l.getD k default = l[k] := by simp [List.getD, List.getElem?_eq_getElem h]
  show ctsAcc l (headT (wAcc l k) (l.getD k default) k) (l.getD k default).ctors (l.getD k default).ctors.length = _
  rw [e]
theorem ctsAcc_size {l : List Da} {base : ByteArray} {cs : List Ct} (hs : Short l) (hc : ∀ c ∈ cs, CtIn l.length c) : ∀ k, k ≤ cs.length → (ctsAcc l base cs k).size ≤ base.size + 511 * k
  | 0, _ => Nat.le_refl _
  | k + 1, hk => by
    have h1 := ctsAcc_size hs hc (base := base) k (by omega)
    have h2 := ctT_size hs (hc _ (List.getElem_mem (by omega : k < cs.length)))
    rw [ctsAcc_at (by omega), ByteArray.size_append]
    have h3 : (ByteArray.mk #[124]).size = 1 := rfl
    split
    · omega
    · rw [ByteArray.size_append]; omega
theorem headT_size (base : ByteArray) (d : Da) (k : Nat) : (headT base d k).size ≤ base.size + d.name.size + 2 := by
  have h3 : (ByteArray.mk #[59]).size = 1 := rfl
  have h4 : (ByteArray.mk #[61]).size = 1 := rfl
  unfold headT
  rw [ByteArray.size_append, ByteArray.size_append]
  split
  · omega
  · rw [ByteArray.size_append]; omega
theorem wAcc_size {l : List Da} (hw : WorldOK l) : ∀ k, k ≤ l.length → (wAcc l k).size ≤ 2200 * k
  | 0, _ => Nat.le_refl _
  | k + 1, hk => by
    have h1 := wAcc_size hw k (by omega)
    have h2 := world_short hw k (by omega)
    have h3 := world_four hw (by omega : k < l.length)
    rw [wAcc_at (by omega)]
    have h4 := ctsAcc_size (base := headT (wAcc l k) l[k] k) (world_short hw) (cs := l[k].ctors) (fun c hc => by
      obtain ⟨m, hm, rfl⟩ := List.getElem_of_mem hc
      exact world_ct_in hw (by omega) hm) l[k].ctors.length (Nat.le_refl _)
    have h5 := headT_size (wAcc l k) l[k] k
    omega
set_option maxHeartbeats 3000000 in
theorem text_any (A : Option Addr) (l : List Da) (cap : Nat) (w : World) (hr : RDas w w.heap.size A l) (hw : WorldOK l) :
    Calls Try.prog 138 #[.slice A l.length cap] w fun e w' => e = .returned (.string (wT l)) ∧ Below w.heap.size w w' := by
  have Hr := Lib.hid hr
  have HW := Lib.hid hw
  have hl4 := hw.1
  have HZ : Hid (∀ k, k ≤ l.length → (wAcc l k).size ≤ 2200 * k) := wAcc_size hw
  have HS := Lib.hid (world_short hw)
  clear hr hw
  go_enter Try.func138, Try.ntmps138
  go_wp2_with fail
  go_loopw [3, 4] (fun t i wr => ∃ k : Nat, k ≤ l.length ∧ i = .int .i64 k ∧ t = .string (wAcc l k) ∧ Below w.heap.size w wr) (fun _ i _ => l.length - (intOf i).toNat)
  case atStart => exact ⟨0, by omega, rfl, rfl, Below.refl _ _⟩
  case round =>
    obtain ⟨k, hk, rfl, rfl, hb⟩ := hrel
    have hz := HZ.out k hk
    by_cases hlt : k < l.length
    · have hkI : (k : Int) < (l.length : Int) := by omega
      obtain ⟨b, off, rfl, hbB, A', cp, c0, c1, hszd, hmd⟩ := (Hr.out.below hb (Nat.le_refl _)).2 k hlt
      have hnm := HS.out k hlt
      have h4 := world_four HW.out hlt
      have HMD : Hid (RCts w w.heap.size A' l[k].ctors) := hmd.keep (fun p hp => (hb.cell hp).symm) (Nat.le_refl _)
      have HAT := Lib.hid (wAcc_at hlt)
      have hhz := headT_size (wAcc l k) l[k] k
      have HCZ : Hid (∀ j, j ≤ l[k].ctors.length → (ctsAcc l (headT (wAcc l k) l[k] k) l[k].ctors j).size ≤ (headT (wAcc l k) l[k] k).size + 511 * j) := ctsAcc_size HS.out (fun c hc => by
        obtain ⟨m, hm, rfl⟩ := List.getElem_of_mem hc
        exact world_ct_in HW.out hlt hm)
      have HC1 : Hid (w.cell? ⟨b, off + k * 2 + 1, none⟩ = some (.slice A' l[k].ctors.length cp)) := (hb.cell (p := ⟨b, off + k * 2 + 1, none⟩) hbB).symm.trans c1
      clear hmd
      have HH : Hid (headT (wAcc l k) l[k] k = ((if k = 0 then wAcc l k else wAcc l k ++ ⟨#[59]⟩) ++ l[k].name) ++ ⟨#[61]⟩) := rfl
      by_cases h0 : k = 0
      all_goals
        first
          | (have q : ¬ (0 : Int) < (k : Int) := by omega
             have q' : (k : Int) ≤ 0 := by omega
             have q'' : decide (0 < k) = false := decide_eq_false (by omega)
             rw [if_pos h0] at HH)
          | (have q' : (0 : Int) < (k : Int) := by omega
             have q'' : decide (0 < k) = true := decide_eq_true (by omega)
             rw [if_neg h0] at HH)
        generalize headT (wAcc l k) l[k] k = h at hhz HAT HCZ HH
        generalize wAcc l k = a at hz HH hhz
        clear h0
        go_wp2_with fail
        obtain ⟨wo, rfl⟩ : ∃ wo : World, wo = wr := ⟨_, rfl⟩
        go_loopw [3, 5] (fun t i wi => ∃ j : Nat, j ≤ l[k].ctors.length ∧ i = .int .i64 j ∧ t = .string (ctsAcc l h l[k].ctors j) ∧ Below w.heap.size w wi) (fun _ i _ => l[k].ctors.length - (intOf i).toNat)
        case atStart => exact ⟨0, by omega, rfl, by rw [show ctsAcc l h l[k].ctors 0 = h from rfl, HH.out], hb⟩
        case round =>
          clear hb c0 c1
          obtain ⟨j, hj, rfl, rfl, hb⟩ := hrel
          have hcz := HCZ.out j hj
          have c1 : wr.cell? ⟨b, off + k * 2 + 1, none⟩ = some (.slice A' l[k].ctors.length cp) := (hb.cell (p := ⟨b, off + k * 2 + 1, none⟩) (by have := block_lt_of_cell HC1.out; simpa using this)).trans HC1.out
          by_cases hjt : j < l[k].ctors.length
          · have hjI : (j : Int) < (l[k].ctors.length : Int) := by omega
            obtain ⟨g, o, rfl, hgB, D1, ep, e0, e1, e2, hszm, hmm⟩ := (HMD.out.below hb (Nat.le_refl _)).2 j hjt
            have HIN := Lib.hid (world_ct_in HW.out hlt hjt)
            have HJ := Lib.hid (ctsAcc_at (l := l) (base := h) hjt)
            have hct := ctT_size HS.out HIN.out
            have HRr : Hid (RDas wr wr.heap.size (some ⟨b, off, none⟩) l) := Hr.out.keep (fun p hp => hb.cell hp) hb.size
            have HMM : Hid (RTys wr wr.heap.size D1 l[k].ctors[j].args) := hmm.keep (fun _ _ => rfl) hb.size
            generalize hu : ctT l l[k].ctors[j] = u at hct HJ
            have HU := Lib.hid hu
            generalize ctsAcc l h l[k].ctors j = a2 at hcz HJ
            clear hu hmm
            by_cases h1 : j = 0
            · have q2 : (j : Int) ≤ 0 := by omega
              rw [if_pos h1] at HJ
              clear h1
              go_wp2_with fail
              refine (ctorText_any _ _ l l[k].ctors[j] _ _ _ HRr.out HMM.out HS.out HIN.out).mono ?_
              rw [HU.out]
              rintro e w1 ⟨rfl, hb1⟩
              have hb2 := below_after hb hb1 hb.size
              go_wp2_with fail
              go_roundw
              case rel => first | exact ⟨j + 1, by omega, by go_num, by rw [HJ.out], hb2⟩ | ((repeat apply Exists.intro); exact ⟨⟨j + 1, by omega, by go_num, by rw [HJ.out], hb2⟩, rfl⟩)
              case measure => simp [intOf]; omega
            · have q2 : (0 : Int) < (j : Int) := by omega
              rw [if_neg h1] at HJ
              clear h1
              go_wp2_with fail
              refine (ctorText_any _ _ l l[k].ctors[j] _ _ _ HRr.out HMM.out HS.out HIN.out).mono ?_
              rw [HU.out]
              rintro e w1 ⟨rfl, hb1⟩
              have hb2 := below_after hb hb1 hb.size
              go_wp2_with fail
              go_roundw
              case rel => first | exact ⟨j + 1, by omega, by go_num, by rw [HJ.out], hb2⟩ | ((repeat apply Exists.intro); exact ⟨⟨j + 1, by omega, by go_num, by rw [HJ.out], hb2⟩, rfl⟩)
              case measure => simp [intOf]; omega
          · have he : j = l[k].ctors.length := by omega
            have hjI : (l[k].ctors.length : Int) ≤ (j : Int) := by omega
            have HE : Hid (ctsAcc l h l[k].ctors j = wAcc l (k + 1)) := by unfold Hid; rw [he, HAT.out]
            clear he
            go_wp2_with fail
            go_roundw
            case rel => exact ⟨k + 1, by omega, by go_num, by rw [HE.out], hb⟩
            case measure => simp [intOf]; omega
    · have he : k = l.length := by omega
      have hkI : (l.length : Int) ≤ (k : Int) := by omega
      have HE : Hid (wAcc l k = wT l) := by unfold Hid wT; rw [he]
      clear he
      go_wp2_with fail
      go_ret
      exact ⟨ret_str HE.out, hb⟩
end Go.Proofs.Yteoopmogklpnoaa
/-
  Rows of constructors and of data types of the call's own, by what they hold and by their kinds; worlds that read the same while nothing from a block on turns. No statement is proved here.
-/
namespace Go.Proofs.Yteoopmogklpnoaa
open Go.RowKit Go.Deep
set_option linter.unusedVariables false
/-- From block lo on, the blocks of the types T are as they were. -/
def KeepT (lo : Nat) (T : TypeId → Prop) (w w' : World) : Prop := ∀ (b : Nat) (ds : Array Value) (t : TypeId), lo ≤ b → T t → w.heap[b]? = some (Obj.cells ds t (0, 0)) → w'.heap[b]? = w.heap[b]?
def T33 (t : TypeId) : Prop := t = 25
def T31 (t : TypeId) : Prop := t = 25 ∨ t = 148
def T28 (t : TypeId) : Prop := t = 25 ∨ t = 148 ∨ t = 144
theorem KeepT.less {lo : Nat} {T S : TypeId → Prop} {w w' : World} (h : KeepT lo T w w') (hs : ∀ t, S t → T t) : KeepT lo S w w' := fun b ds t hl ht hb => h b ds t hl (hs t ht) hb
theorem KeepT.up {lo lo' : Nat} {T : TypeId → Prop} {w w' : World} (h : KeepT lo T w w') (hl : lo ≤ lo') : KeepT lo' T w w' := fun b ds t hl' ht hb => h b ds t (Nat.le_trans hl hl') ht hb
theorem KeepT.to31 {lo : Nat} {w w' : World} (h : KeepT lo T28 w w') : KeepT lo T31 w w' := h.less fun _ e => e.elim .inl fun e => .inr (.inl e)
theorem KeepT.of31 {lo : Nat} {w w' : World} (h : KeepT lo T31 w w') : KeepT lo T33 w w' := h.less fun _ e => .inl e
theorem KeepT.below {w w' : World} (lo : Nat) (T : TypeId → Prop) (h : Below w.heap.size w w') : KeepT lo T w w' := fun b ds t _ _ hb => h.block b (heap_lt hb)
theorem KeepT.alloc (lo : Nat) (T : TypeId → Prop) (w : World) (o : Obj) : KeepT lo T w (w.alloc o) := fun b ds t _ _ hb => Below.heap_alloc _ _ _ (heap_lt hb)
theorem KeepT.trans {lo : Nat} {T : TypeId → Prop} {a b c : World} (h : KeepT lo T a b) (k : KeepT lo T b c) : KeepT lo T a c := fun g ds t hl ht hg => by
  have h1 := h g ds t hl ht hg
  exact (k g ds t hl ht (h1.trans hg)).trans h1
theorem KeepT.set {lo g : Nat} {T : TypeId → Prop} {w : World} {cs : Array Value} {t : TypeId} (hg : w.heap[g]? = some (.cells cs t (0, 0))) (hn : ¬ T t) (i : Nat) (u : Value) : KeepT lo T w (w.setCell ⟨g, i, none⟩ u) := fun b ds s hl hs hb => by
  refine Below.heap_setCell _ _ _ _ ?_
  intro e
  have e' : b = g := e
  subst e'
  rw [hg] at hb
  injection hb with hb
  injection hb with _ e
  exact hn (e ▸ hs)
theorem KeepT.grown {lo : Nat} {T : TypeId → Prop} {w w' : World} {v : Value} {size n : Nat} {e : TypeId} {xs : List Value} {l0 : Nat} (ho : w.ownsRow l0 e size v n xs) (hn : ¬ T e) (hg : w.grownBy w' v.ownBlock) : KeepT lo T w w' := fun b ds s hl hs hb => by
  refine hg.block b (heap_lt hb) ?_
  intro he
  rcases ho.2 with ⟨rfl, _⟩ | ⟨g, cap, cur, rfl, _, hgg, _⟩
  · simp [Value.ownBlock] at he
  · have : b = g := by simpa [Value.ownBlock] using he
    subst this
    rw [hgg] at hb
    injection hb with hb
    injection hb with _ e
    exact hn (e ▸ hs)
theorem row_keep {w w' : World} {lo size n : Nat} {e : TypeId} {v : Value} {xs : List Value} {T : TypeId → Prop} (h : w.ownsRow lo e size v n xs) (hk : KeepT lo T w w') (hT : T e) : w'.ownsRow lo e size v n xs := by
  refine ⟨h.1, ?_⟩
  rcases h.2 with h0 | ⟨g, cap, cur, a1, a2, a3, a4⟩
  · exact .inl h0
  · exact .inr ⟨g, cap, cur, a1, a2, (hk g cur e a2 hT a3).trans a3, a4⟩
theorem row_lower {w : World} {lo lo' size n : Nat} {e : TypeId} {v : Value} {xs : List Value} (h : w.ownsRow lo e size v n xs) (hl : lo' ≤ lo) : w.ownsRow lo' e size v n xs := by
  refine ⟨h.1, ?_⟩
  rcases h.2 with h0 | ⟨g, cap, cur, a1, a2, a3⟩
  · exact .inl h0
  · exact .inr ⟨g, cap, cur, a1, by omega, a3⟩
theorem OTys.keepT {w w' : World} {lo : Nat} {v : Value} {l : List Ty} {k : Nat} (h : OTys w lo v l k) (hk : KeepT lo T33 w w') : OTys w' lo v l k := by
  obtain ⟨xs, ho, hx⟩ := h
  exact ⟨xs, row_keep ho hk rfl, hx⟩

/-! What a row holds. -/
def CRow (w : World) (lo : Nat) (cs : List Ct) (xs : List Value) : Prop :=
  ∀ j (h : j < cs.length), ∃ v, xs[j * 3]? = some (.string cs[j].name) ∧ xs[j * 3 + 1]? = some v ∧ xs[j * 3 + 2]? = some (.int .i64 cs[j].index) ∧ cs[j].name.size ≤ maxLen ∧ cs[j].args.length ≤ maxLen ∧ OTys w lo v cs[j].args cs[j].args.length
def OCts (w : World) (lo : Nat) (v : Value) (cs : List Ct) : Prop := ∃ xs, w.ownsRow lo 148 3 v cs.length xs ∧ CRow w lo cs xs
def DRow (w : World) (lo : Nat) (l : List Da) (xs : List Value) : Prop :=
  ∀ j (h : j < l.length), ∃ v, xs[j * 2]? = some (.string l[j].name) ∧ xs[j * 2 + 1]? = some v ∧ l[j].name.size ≤ maxLen ∧ l[j].ctors.length ≤ maxLen ∧ OCts w lo v l[j].ctors
def ODas (w : World) (lo : Nat) (v : Value) (l : List Da) : Prop := ∃ xs, w.ownsRow lo 144 2 v l.length xs ∧ DRow w lo l xs
section
variable {w w' : World} {lo lo' : Nat} {v : Value}
theorem CRow.keepT {cs : List Ct} {xs : List Value} (h : CRow w lo cs xs) (hk : KeepT lo T33 w w') : CRow w' lo cs xs := fun j hj => by
  obtain ⟨u, h1, h2, h3, h4, h5, h6⟩ := h j hj
  exact ⟨u, h1, h2, h3, h4, h5, h6.keepT hk⟩
theorem OCts.keepT {cs : List Ct} (h : OCts w lo v cs) (hk : KeepT lo T31 w w') : OCts w' lo v cs := by
  obtain ⟨xs, ho, hx⟩ := h
  exact ⟨xs, row_keep ho hk (.inr rfl), hx.keepT hk.of31⟩
theorem DRow.keepT {l : List Da} {xs : List Value} (h : DRow w lo l xs) (hk : KeepT lo T31 w w') : DRow w' lo l xs := fun j hj => by
  obtain ⟨u, h1, h2, h3, h4, h5⟩ := h j hj
  exact ⟨u, h1, h2, h3, h4, h5.keepT hk⟩
theorem ODas.keepT {l : List Da} (h : ODas w lo v l) (hk : KeepT lo T28 w w') : ODas w' lo v l := by
  obtain ⟨xs, ho, hx⟩ := h
  exact ⟨xs, row_keep ho hk (.inr (.inr rfl)), hx.keepT hk.to31⟩
theorem OCts.lower {cs : List Ct} (h : OCts w lo v cs) (hl : lo' ≤ lo) : OCts w lo' v cs := by
  obtain ⟨xs, ho, hx⟩ := h
  refine ⟨xs, row_lower ho hl, fun j hj => ?_⟩
  obtain ⟨u, h1, h2, h3, h4, h5, h6⟩ := hx j hj
  exact ⟨u, h1, h2, h3, h4, h5, h6.lower hl⟩
theorem ODas.lower {l : List Da} (h : ODas w lo v l) (hl : lo' ≤ lo) : ODas w lo' v l := by
  obtain ⟨xs, ho, hx⟩ := h
  refine ⟨xs, row_lower ho hl, fun j hj => ?_⟩
  obtain ⟨u, h1, h2, h3, h4, h5⟩ := hx j hj
  exact ⟨u, h1, h2, h3, h4, h5.lower hl⟩
theorem CRow.nil (w : World) (lo : Nat) (xs : List Value) : CRow w lo [] xs := fun j h => absurd h (by simp)
theorem DRow.nil (w : World) (lo : Nat) (xs : List Value) : DRow w lo [] xs := fun j h => absurd h (by simp)
theorem OCts.nil (w : World) (lo : Nat) : OCts w lo (.slice none 0 0) [] := ⟨[], World.ownsRow_nil _ _ _ _, CRow.nil _ _ _⟩
theorem CRow.app {cs : List Ct} {xs : List Value} {c : Ct} {u : Value} (h : CRow w lo cs xs) (hx : xs.length = cs.length * 3) (hn : c.name.size ≤ maxLen) (ha : c.args.length ≤ maxLen) (ho : OTys w lo u c.args c.args.length) :
    CRow w lo (cs ++ [c]) (xs ++ [.string c.name, u, .int .i64 c.index]) := fun j hj => by
  by_cases e : j < cs.length
  · obtain ⟨u', h1, h2, h3, h4, h5, h6⟩ := h j e
    have e1 : (cs ++ [c])[j] = cs[j] := List.getElem_append_left e
    rw [e1]
    exact ⟨u', by rw [List.getElem?_append_left (by omega)]; exact h1, by rw [List.getElem?_append_left (by omega)]; exact h2, by rw [List.getElem?_append_left (by omega)]; exact h3, h4, h5, h6⟩
  · have ej : j = cs.length := by simp at hj; omega
    subst ej
    have e1 : (cs ++ [c])[cs.length] = c := by simp
    rw [e1]
    refine ⟨u, ?_, ?_, ?_, hn, ha, ho⟩
    · rw [List.getElem?_append_right (by omega), hx]; simp
    · rw [List.getElem?_append_right (by omega), hx]; simp
    · rw [List.getElem?_append_right (by omega), hx]; simp
theorem OCts.app {cs : List Ct} {xs : List Value} {c : Ct} {u : Value} (h : CRow w lo cs xs) (hx : xs.length = cs.length * 3) (hn : c.name.size ≤ maxLen) (ha : c.args.length ≤ maxLen) (ho : OTys w lo u c.args c.args.length)
    (hr : w.ownsRow lo 148 3 v (cs.length + 1) (xs ++ [.string c.name, u, .int .i64 c.index])) : OCts w lo v (cs ++ [c]) :=
  ⟨_, by rw [List.length_append]; exact hr, h.app hx hn ha ho⟩
theorem DRow.app {l : List Da} {xs : List Value} {d : Da} {u : Value} (h : DRow w lo l xs) (hx : xs.length = l.length * 2) (hn : d.name.size ≤ maxLen) (ha : d.ctors.length ≤ maxLen) (ho : OCts w lo u d.ctors) :
    DRow w lo (l ++ [d]) (xs ++ [.string d.name, u]) := fun j hj => by
  by_cases e : j < l.length
  · obtain ⟨u', h1, h2, h4, h5, h6⟩ := h j e
    have e1 : (l ++ [d])[j] = l[j] := List.getElem_append_left e
    rw [e1]
    exact ⟨u', by rw [List.getElem?_append_left (by omega)]; exact h1, by rw [List.getElem?_append_left (by omega)]; exact h2, h4, h5, h6⟩
  · have ej : j = l.length := by simp at hj; omega
    subst ej
    have e1 : (l ++ [d])[l.length] = d := by simp
    rw [e1]
    refine ⟨u, ?_, ?_, hn, ha, ho⟩
    · rw [List.getElem?_append_right (by omega), hx]; simp
    · rw [List.getElem?_append_right (by omega), hx]; simp
theorem ODas.app {l : List Da} {xs : List Value} {d : Da} {u : Value} (h : DRow w lo l xs) (hx : xs.length = l.length * 2) (hn : d.name.size ≤ maxLen) (ha : d.ctors.length ≤ maxLen) (ho : OCts w lo u d.ctors)
    (hr : w.ownsRow lo 144 2 v (l.length + 1) (xs ++ [.string d.name, u])) : ODas w lo v (l ++ [d]) :=
  ⟨_, by rw [List.length_append]; exact hr, h.app hx hn ha ho⟩
theorem OCts.form {cs : List Ct} (h : OCts w lo v cs) (hl : cs.length ≤ maxLen) : ∃ A cap, v = .slice A cs.length cap ∧ RCts w w.heap.size A cs := by
  obtain ⟨xs, ho, hx⟩ := h
  rcases ho.2 with ⟨rfl, h0⟩ | ⟨g, cap, cur, rfl, hb, hg, hnc, hcm, hcs, htake⟩
  · exact ⟨none, 0, by rw [h0], hl, fun k hk => absurd hk (by omega)⟩
  · refine ⟨_, cap, rfl, hl, fun k hk => ⟨g, 0, rfl, own_lt ho, ?_⟩⟩
    obtain ⟨u, h1, h2, h3, h4, h5, h6⟩ := hx k hk
    obtain ⟨A, cp, rfl, hr⟩ := h6.form h5
    refine ⟨A, cp, ?_, ?_, ?_, h4, hr⟩
    · rw [Nat.zero_add, ho.cellAt (k * 3) (by omega)]; exact h1
    · rw [Nat.zero_add, ho.cellAt (k * 3 + 1) (by omega)]; exact h2
    · rw [Nat.zero_add, ho.cellAt (k * 3 + 2) (by omega)]; exact h3
theorem ODas.form {l : List Da} (h : ODas w lo v l) (hl : l.length ≤ maxLen) : ∃ A cap, v = .slice A l.length cap ∧ RDas w w.heap.size A l := by
  obtain ⟨xs, ho, hx⟩ := h
  rcases ho.2 with ⟨rfl, h0⟩ | ⟨g, cap, cur, rfl, hb, hg, hnc, hcm, hcs, htake⟩
  · exact ⟨none, 0, by rw [h0], hl, fun k hk => absurd hk (by omega)⟩
  · refine ⟨_, cap, rfl, hl, fun k hk => ⟨g, 0, rfl, own_lt ho, ?_⟩⟩
    obtain ⟨u, h1, h2, h4, h5, h6⟩ := hx k hk
    obtain ⟨A, cp, rfl, hr⟩ := h6.form h5
    refine ⟨A, cp, ?_, ?_, h4, hr⟩
    · rw [Nat.zero_add, ho.cellAt (k * 2) (by omega)]; exact h1
    · rw [Nat.zero_add, ho.cellAt (k * 2 + 1) (by omega)]; exact h2
end
/-- From block lo on, what was there is there. -/
def Stays (lo : Nat) (w w' : World) : Prop := w.heap.size ≤ w'.heap.size ∧ ∀ b, lo ≤ b → b < w.heap.size → w'.heap[b]? = w.heap[b]?
theorem Stays.refl (lo : Nat) (w : World) : Stays lo w w := ⟨Nat.le_refl _, fun _ _ _ => rfl⟩
theorem Stays.trans {lo : Nat} {a b c : World} (h : Stays lo a b) (k : Stays lo b c) : Stays lo a c :=
  ⟨Nat.le_trans h.1 k.1, fun g hl hg => (k.2 g hl (Nat.lt_of_lt_of_le hg h.1)).trans (h.2 g hl hg)⟩
theorem Stays.below {lo : Nat} {w w' : World} (h : Below w.heap.size w w') : Stays lo w w' := ⟨h.size, fun b _ hb => h.block b hb⟩
theorem Stays.grown {lo g : Nat} {w w' : World} (h : w.grownBy w' (some g)) (hg : g < lo) : Stays lo w w' := ⟨h.size, fun b hl hb => h.block b hb (fun e => by injection e with e; omega)⟩
theorem Stays.keepT {lo : Nat} {w w' : World} (h : Stays lo w w') (T : TypeId → Prop) : KeepT lo T w w' := fun b ds t hl _ hb => h.2 b hl (heap_lt hb)
/-- The slice v reads as the list l, and does so while nothing from block lo on turns. -/
def Lies (w : World) (lo : Nat) (v : Value) (l : List Da) : Prop := ∃ A cap, v = .slice A l.length cap ∧ ∀ w', Stays lo w w' → RDas w' w'.heap.size A l
theorem Lies.at_ {w w' : World} {lo : Nat} {v : Value} {l : List Da} (h : Lies w lo v l) (hs : Stays lo w w') : Lies w' lo v l := by
  obtain ⟨A, cap, e, hr⟩ := h
  exact ⟨A, cap, e, fun w2 h2 => hr w2 (hs.trans h2)⟩
theorem Lies.form {w : World} {lo : Nat} {v : Value} {l : List Da} (h : Lies w lo v l) : ∃ A cap, v = .slice A l.length cap ∧ RDas w w.heap.size A l := by
  obtain ⟨A, cap, e, hr⟩ := h
  exact ⟨A, cap, e, hr w (Stays.refl _ _)⟩
theorem ODas.lies {w : World} {lo : Nat} {v : Value} {l : List Da} (h : ODas w lo v l) (hl : l.length ≤ maxLen) : Lies w lo v l := by
  obtain ⟨A, cap, rfl, _⟩ := h.form hl
  refine ⟨A, cap, rfl, fun w' hs => ?_⟩
  obtain ⟨A', cap', e, hr⟩ := (h.keepT (hs.keepT T28)).form hl
  injection e with e1 e2 e3
  subst e1
  exact hr
end Go.Proofs.Yteoopmogklpnoaa
