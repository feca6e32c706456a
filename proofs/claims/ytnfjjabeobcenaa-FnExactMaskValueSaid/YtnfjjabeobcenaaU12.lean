/-
  Paths compared, found in a list and made longer: the functions of both sides. No statement is proved here.
-/
import Derived.Test.YtnfjjabeobcenaaU11
import Derived.Test.YtnfjjabeobcenaaU06
import Derived.Deep.DeepCutAuto
import Derived.Lib.SliceRun
namespace Go.Proofs.Ytnfjjabeobcenaa
open Go.RowKit Go.Sort Go.Deep
set_option maxRecDepth 100000
set_option linter.unusedVariables false
theorem ret_bool' {a b : Bool} (h : a = b) : Ending.returned (.bool a) = .returned (.bool b) := by rw [h]
theorem eq_upto {p q : List Int} (hl : p.length = q.length) (h : ∀ j (h : j < p.length) (h' : j < q.length), p[j] = q[j]) : p = q := List.ext_getElem hl h
set_option maxHeartbeats 800000 in
theorem samS_any (A A' : Option Addr) (p q : List Int) (cap cap' : Nat) (w : World) (hr : RIs w w.heap.size A p) (hr' : RIs w w.heap.size A' q) :
    Calls Try.prog 85 #[.slice A p.length cap, .slice A' q.length cap'] w fun e w' => e = .returned (.bool (dec (p = q))) ∧ Below w.heap.size w w' := by
  have hn := hr.1
  have hn' := hr'.1
  unfold maxLen at hn hn'
  have Hr := Lib.hid hr
  have Hr' := Lib.hid hr'
  clear hr hr'
  by_cases hl : p.length = q.length
  case neg =>
    have q0 : ((p.length : Int) != (q.length : Int)) = true := by simp; omega
    have HF : Hid (dec (p = q) = false) := dec_f (fun e => hl (by rw [e]))
    clear hl
    go_enter Try.func85, Try.ntmps85
    go_wp2_with fail
    go_ret
    exact ⟨ret_bool' HF.out.symm, Below.refl _ _⟩
  have q0 : ((p.length : Int) != (q.length : Int)) = false := by simp [hl]
  have HL := Lib.hid hl
  clear hl
  go_enter Try.func85, Try.ntmps85
  go_wp2_with fail
  go_loopw [5] (fun i wr => ∃ k : Nat, k ≤ p.length ∧ i = .int .i64 k ∧ Hid (∀ j (h : j < p.length) (h' : j < q.length), j < k → p[j] = q[j]) ∧ Below w.heap.size w wr) (fun i _ => p.length - (intOf i).toNat)
  case atStart => exact ⟨0, by omega, rfl, fun j _ _ h => absurd h (by omega), Below.refl _ _⟩
  case round =>
    obtain ⟨k, hk, rfl, HE, hb⟩ := hrel
    by_cases hlt : k < p.length
    · have hlq : k < q.length := by rw [← HL.out]; exact hlt
      obtain ⟨b, off, rfl, hbB, c0⟩ := (Hr.out.below hb (Nat.le_refl _)).2 k hlt
      obtain ⟨b', off', rfl, hbB', c0'⟩ := (Hr'.out.below hb (Nat.le_refl _)).2 k hlq
      have hi : (k : Int) < (p.length : Int) := by omega
      have hi2 : (k : Int) < (q.length : Int) := by omega
      have HB2 : Hid (∀ n, Below w.heap.size w (wr.drewN n)) := fun n => ⟨hb.os, hb.tape, hb.output, hb.size, hb.block⟩
      by_cases he : p[k] = q[k]
      · have q1 : (p[k] != q[k]) = false := by simp [he]
        have HEk : Hid (∀ j (h : j < p.length) (h' : j < q.length), j < k + 1 → p[j] = q[j]) := fun j h h' hj => by
          by_cases e : j = k
          · subst e; exact he
          · exact HE.out j h h' (by omega)
        clear he
        go_wp2_with fail
        go_quiet (fail)
        go_wp2_with fail
        go_roundw
        case rel => exact ⟨k + 1, by omega, by go_num, HEk, HB2.out _⟩
        case measure => simp [intOf]; omega
      · have q1 : (p[k] != q[k]) = true := by simpa using he
        have HF : Hid (dec (p = q) = false) := dec_f (fun e => he (by subst e; rfl))
        clear he
        go_wp2_with fail
        go_quiet (fail)
        go_wp2_with fail
        go_ret
        exact ⟨ret_bool' HF.out.symm, HB2.out _⟩
    · have hi : (p.length : Int) ≤ (k : Int) := by omega
      have HT : Hid (dec (p = q) = true) := dec_t (eq_upto HL.out (fun j h h' => HE.out j h h' (by omega)))
      go_wp2_with fail
      go_ret
      exact ⟨ret_bool' HT.out.symm, hb⟩
set_option maxHeartbeats 800000 in
theorem samI_any (A A' : Option Addr) (p q : List Int) (cap cap' : Nat) (w : World) (hr : RIs w w.heap.size A p) (hr' : RIs w w.heap.size A' q) :
    Calls Try.prog 88 #[.slice A p.length cap, .slice A' q.length cap'] w fun e w' => e = .returned (.bool (dec (p = q))) ∧ Below w.heap.size w w' := by
  have hn := hr.1
  have hn' := hr'.1
  unfold maxLen at hn hn'
  have Hr := Lib.hid hr
  have Hr' := Lib.hid hr'
  clear hr hr'
  by_cases hl : p.length = q.length
  case neg =>
    have q0 : ((p.length : Int) != (q.length : Int)) = true := by simp; omega
    have HF : Hid (dec (p = q) = false) := dec_f (fun e => hl (by rw [e]))
    clear hl
    go_enter Try.func88, Try.ntmps88
    go_wp2_with fail
    go_ret
    exact ⟨ret_bool' HF.out.symm, Below.refl _ _⟩
  have q0 : ((p.length : Int) != (q.length : Int)) = false := by simp [hl]
  have HL := Lib.hid hl
  clear hl
  go_enter Try.func88, Try.ntmps88
  go_wp2_with fail
  go_loopw [13] (fun i wr => ∃ k : Nat, k ≤ p.length ∧ i = .int .i64 k ∧ Hid (∀ j (h : j < p.length) (h' : j < q.length), j < k → p[j] = q[j]) ∧ Below w.heap.size w wr) (fun i _ => p.length - (intOf i).toNat)
  case atStart => exact ⟨0, by omega, rfl, fun j _ _ h => absurd h (by omega), Below.refl _ _⟩
  case round =>
    obtain ⟨k, hk, rfl, HE, hb⟩ := hrel
    by_cases hlt : k < p.length
    · have hlq : k < q.length := by rw [← HL.out]; exact hlt
      obtain ⟨b, off, rfl, hbB, c0⟩ := (Hr.out.below hb (Nat.le_refl _)).2 k hlt
      obtain ⟨b', off', rfl, hbB', c0'⟩ := (Hr'.out.below hb (Nat.le_refl _)).2 k hlq
      have hi : (k : Int) < (p.length : Int) := by omega
      have hi2 : (k : Int) < (q.length : Int) := by omega
      have HB2 : Hid (∀ n, Below w.heap.size w (wr.drewN n)) := fun n => ⟨hb.os, hb.tape, hb.output, hb.size, hb.block⟩
      by_cases he : p[k] = q[k]
      · have q1 : (p[k] != q[k]) = false := by simp [he]
        have HEk : Hid (∀ j (h : j < p.length) (h' : j < q.length), j < k + 1 → p[j] = q[j]) := fun j h h' hj => by
          by_cases e : j = k
          · subst e; exact he
          · exact HE.out j h h' (by omega)
        clear he
        go_wp2_with fail
        go_quiet (fail)
        go_wp2_with fail
        go_roundw
        case rel => exact ⟨k + 1, by omega, by go_num, HEk, HB2.out _⟩
        case measure => simp [intOf]; omega
      · have q1 : (p[k] != q[k]) = true := by simpa using he
        have HF : Hid (dec (p = q) = false) := dec_f (fun e => he (by subst e; rfl))
        clear he
        go_wp2_with fail
        go_quiet (fail)
        go_wp2_with fail
        go_ret
        exact ⟨ret_bool' HF.out.symm, HB2.out _⟩
    · have hi : (p.length : Int) ≤ (k : Int) := by omega
      have HT : Hid (dec (p = q) = true) := dec_t (eq_upto HL.out (fun j h h' => HE.out j h h' (by omega)))
      go_wp2_with fail
      go_ret
      exact ⟨ret_bool' HT.out.symm, hb⟩
set_option maxHeartbeats 800000 in
theorem hasP_spec (A D : Option Addr) (ps : List (List Int)) (p : List Int) (cap cp : Nat) (w : World) (hr : RIss w w.heap.size A ps) (hp : RIs w w.heap.size D p) :
    Calls Try.prog 64 #[.slice A ps.length cap, .slice D p.length cp] w fun e w' => e = .returned (.bool (dec (p ∈ ps))) ∧ Below w.heap.size w w' := by
  have hn := hr.1
  unfold maxLen at hn
  have Hr := Lib.hid hr
  have HP := Lib.hid hp
  clear hr hp
  go_enter Try.func64, Try.ntmps64
  go_wp2_with fail
  go_loopw [5] (fun i wr => ∃ k : Nat, k ≤ ps.length ∧ i = .int .i64 k ∧ Hid (∀ j (h : j < ps.length), j < k → ¬ ps[j] = p) ∧ Below w.heap.size w wr) (fun i _ => ps.length - (intOf i).toNat)
  case atStart => exact ⟨0, by omega, rfl, fun j _ h => absurd h (by omega), Below.refl _ _⟩
  case round =>
    obtain ⟨k, hk, rfl, HE, hb⟩ := hrel
    by_cases hlt : k < ps.length
    · obtain ⟨b, off, A', c, rfl, hbB, c0, hm⟩ := (Hr.out.below hb (Nat.le_refl _)).2 k hlt
      have Hm : Hid (RIs wr wr.heap.size A' ps[k]) := hm.keep (fun _ _ => rfl) hb.size
      have Hp : Hid (RIs wr wr.heap.size D p) := HP.out.at_ hb
      have hi : (k : Int) < (ps.length : Int) := by omega
      clear hm
      by_cases he : ps[k] = p
      · have HF := Lib.hid (dec_t he)
        have HT : Hid (dec (p ∈ ps) = true) := dec_t (by rw [← he]; exact List.getElem_mem hlt)
        clear he
        go_wp2_with (go_at_call 85; refine (samS_any _ _ _ _ _ _ _ Hm.out Hp.out).mono ?_; rw [HF.out]; rintro e1 w1 ⟨rfl, hb1⟩; have hb1w := hb.trans (hb1.mono hb.size))
        go_ret
        exact ⟨ret_bool' HT.out.symm, hb1w⟩
      · have HF := Lib.hid (dec_f he)
        have HEk : Hid (∀ j (h : j < ps.length), j < k + 1 → ¬ ps[j] = p) := fun j h hj => by
          by_cases e : j = k
          · subst e; exact he
          · exact HE.out j h (by omega)
        clear he
        go_wp2_with (go_at_call 85; refine (samS_any _ _ _ _ _ _ _ Hm.out Hp.out).mono ?_; rw [HF.out]; rintro e1 w1 ⟨rfl, hb1⟩; have hb1w := hb.trans (hb1.mono hb.size))
        go_roundw
        case rel => exact ⟨k + 1, by omega, by go_num, HEk, hb1w⟩
        case measure => simp [intOf]; omega
    · have hi : (ps.length : Int) ≤ (k : Int) := by omega
      have HT : Hid (dec (p ∈ ps) = false) := dec_f (fun h => by
        obtain ⟨j, hj, e⟩ := List.getElem_of_mem h
        exact HE.out j hj (by omega) e)
      go_wp2_with fail
      go_ret
      exact ⟨ret_bool' HT.out.symm, hb⟩
set_option maxHeartbeats 800000 in
theorem has1_any (A' D : Option Addr) (q p : List Int) (c cp pw : Nat) (w : World) (hq : RIs w w.heap.size A' q) (hp : RIs w w.heap.size D p) (hc : w.cell? ⟨pw, 0, none⟩ = some (.slice D p.length cp)) :
    Calls Try.prog 87 #[.slice A' q.length c, .pointer (some ⟨pw, 0, none⟩)] w fun e w' => e = .returned (.bool (dec (q = p))) ∧ Below w.heap.size w w' := by
  have HQ := Lib.hid hq
  have HP := Lib.hid hp
  clear hq hp
  go_enter Try.func87, Try.ntmps87
  go_wp2_with (go_at_call 88; refine (samI_any _ _ _ _ _ _ _ HQ.out HP.out).mono ?_; rintro e1 w1 ⟨rfl, hb1⟩)
  go_ret
  exact ⟨rfl, hb1⟩
set_option maxHeartbeats 800000 in
theorem idxP_any (A D : Option Addr) (ps : List (List Int)) (p : List Int) (cap cp pw : Nat) (w : World) (hr : RIss w w.heap.size A ps) (hp : RIs w w.heap.size D p) (hc : w.cell? ⟨pw, 0, none⟩ = some (.slice D p.length cp)) (hpw : pw < w.heap.size) :
    Calls Try.prog 101 #[.slice A ps.length cap, .func (.func 87) #[] #[.pointer (some ⟨pw, 0, none⟩)]] w fun e w' => ∃ r : Int, e = .returned (.int .i64 r) ∧ decide (0 ≤ r) = dec (p ∈ ps) ∧ Below w.heap.size w w' := by
  have hn := hr.1
  unfold maxLen at hn
  have Hr := Lib.hid hr
  have HP := Lib.hid hp
  have HC := Lib.hid hc
  clear hr hp hc
  go_enter Try.func101, Try.ntmps101
  go_wp2_with fail
  go_loopw [8] (fun i wr => ∃ k : Nat, k ≤ ps.length ∧ i = .int .i64 k ∧ Hid (∀ j (h : j < ps.length), j < k → ¬ ps[j] = p) ∧ Below w.heap.size w wr) (fun i _ => ps.length - (intOf i).toNat)
  case atStart => exact ⟨0, by omega, rfl, fun j _ h => absurd h (by omega), Below.refl _ _⟩
  case round =>
    obtain ⟨k, hk, rfl, HE, hb⟩ := hrel
    by_cases hlt : k < ps.length
    · obtain ⟨b, off, A', c, rfl, hbB, c0, hm⟩ := (Hr.out.below hb (Nat.le_refl _)).2 k hlt
      have Hm : Hid (RIs wr wr.heap.size A' ps[k]) := hm.keep (fun _ _ => rfl) hb.size
      have Hp : Hid (RIs wr wr.heap.size D p) := HP.out.at_ hb
      have Hc : Hid (wr.cell? ⟨pw, 0, none⟩ = some (.slice D p.length cp)) := (hb.cell (p := ⟨pw, 0, none⟩) hpw).trans HC.out
      have hi : (k : Int) < (ps.length : Int) := by omega
      clear hm
      by_cases he : ps[k] = p
      · have HF := Lib.hid (dec_t he)
        have HT : Hid (decide (0 ≤ (k : Int)) = dec (p ∈ ps)) := by unfold Hid; rw [dec_t (by rw [← he]; exact List.getElem_mem hlt)]; simp
        clear he
        go_wp2_with (go_at_call 87; refine (has1_any _ _ _ _ _ _ _ _ Hm.out Hp.out Hc.out).mono ?_; rw [HF.out]; rintro e1 w1 ⟨rfl, hb1⟩; have hb1w := hb.trans (hb1.mono hb.size))
        go_ret
        exact ⟨_, rfl, HT.out, hb1w⟩
      · have HF := Lib.hid (dec_f he)
        have HEk : Hid (∀ j (h : j < ps.length), j < k + 1 → ¬ ps[j] = p) := fun j h hj => by
          by_cases e : j = k
          · subst e; exact he
          · exact HE.out j h (by omega)
        clear he
        go_wp2_with (go_at_call 87; refine (has1_any _ _ _ _ _ _ _ _ Hm.out Hp.out Hc.out).mono ?_; rw [HF.out]; rintro e1 w1 ⟨rfl, hb1⟩; have hb1w := hb.trans (hb1.mono hb.size))
        go_roundw
        case rel => exact ⟨k + 1, by omega, by go_num, HEk, hb1w⟩
        case measure => simp [intOf]; omega
    · have hi : (ps.length : Int) ≤ (k : Int) := by omega
      have HT : Hid (decide (0 ≤ (-1 : Int)) = dec (p ∈ ps)) := by
        unfold Hid
        rw [dec_f (fun h => by
          obtain ⟨j, hj, e⟩ := List.getElem_of_mem h
          exact HE.out j hj (by omega) e)]
        rfl
      go_wp2_with fail
      go_ret
      exact ⟨_, rfl, HT.out, hb⟩
theorem conP_any (A D : Option Addr) (ps : List (List Int)) (p : List Int) (cap cp pw : Nat) (w : World) (hr : RIss w w.heap.size A ps) (hp : RIs w w.heap.size D p) (hc : w.cell? ⟨pw, 0, none⟩ = some (.slice D p.length cp)) (hpw : pw < w.heap.size) :
    Calls Try.prog 86 #[.slice A ps.length cap, .func (.func 87) #[] #[.pointer (some ⟨pw, 0, none⟩)]] w fun e w' => e = .returned (.bool (dec (p ∈ ps))) ∧ Below w.heap.size w w' := by
  have Hr := Lib.hid hr
  have HP := Lib.hid hp
  have HC := Lib.hid hc
  clear hr hp hc
  go_enter Try.func86, Try.ntmps86
  go_wp2_with (go_at_call 101; refine (idxP_any _ _ _ _ _ _ _ _ Hr.out HP.out HC.out hpw).mono ?_; rintro e1 w1 ⟨r, rfl, hd, hb1⟩; have HD := Lib.hid hd; clear hd)
  go_ret
  exact ⟨ret_bool' HD.out, hb1⟩
theorem hasP_impl (A D : Option Addr) (ps : List (List Int)) (p : List Int) (cap cp : Nat) (w : World) (hr : RIss w w.heap.size A ps) (hp : RIs w w.heap.size D p) :
    Calls Try.prog 66 #[.slice A ps.length cap, .slice D p.length cp] w fun e w' => e = .returned (.bool (dec (p ∈ ps))) ∧ Below w.heap.size w w' := by
  have Hr := Lib.hid hr
  have HP := Lib.hid hp
  clear hr hp
  generalize hw0 : w.alloc (.cells #[.slice D p.length cp] 69) = w0
  have hb0 : Below w.heap.size w w0 := by rw [← hw0]; exact (Below.refl _ _).alloc (Nat.le_refl _) _
  have HC : Hid (w0.cell? ⟨w.heap.size, 0, none⟩ = some (.slice D p.length cp)) := by unfold Hid; rw [← hw0]; simp [go_sem]
  have hs : w.heap.size < w0.heap.size := by rw [← hw0]; simp
  have HW := Lib.hid hw0
  clear hw0
  go_enter Try.func66, Try.ntmps66
  go_wp2_with (go_at_call 86; rw [HW.out]; refine (conP_any _ _ _ _ _ _ _ _ (Hr.out.at_ hb0) (HP.out.at_ hb0) HC.out hs).mono ?_; rintro e1 w1 ⟨rfl, hb1⟩; have hb1w := hb0.trans (hb1.mono hb0.size))
  go_ret
  exact ⟨rfl, hb1w⟩

/-! Paths made longer. -/
theorem cell_one_at (w : World) (x : Value) (t : TypeId) : ∀ j u, [x][j]? = some u → (w.alloc (.cells #[x] t)).cell? ((⟨w.heap.size, 0, none⟩ : Addr).add j) = some u := by
  intro j u hj
  have h0 : j = 0 := by
    rcases j with _ | j
    · rfl
    · simp at hj
  subst h0
  simp at hj
  subst hj
  simp [go_sem, Addr.add]
theorem RIs.news {w : World} {B : Nat} {A : Option Addr} {l : List Int} (h : RIs w B A l) : 0 < l.length → ∃ ad, A = some ad ∧ ∀ j u, (l.map (Value.int .i64))[j]? = some u → w.cell? (ad.add j) = some u := fun h0 => by
  obtain ⟨b, off, rfl, _, _⟩ := h.2 0 h0
  refine ⟨_, rfl, fun j u hj => ?_⟩
  rw [List.getElem?_map] at hj
  have hjl : j < l.length := by
    rcases Nat.lt_or_ge j l.length with h1 | h1
    · exact h1
    · rw [List.getElem?_eq_none h1] at hj; cases hj
  rw [List.getElem?_eq_getElem hjl] at hj
  obtain ⟨b', off', e, _, c0⟩ := h.2 j hjl
  injection e with e
  injection e with e1 e2
  subst e1 e2
  simp at hj
  subst hj
  by_cases hj0 : j = 0
  · subst hj0; simpa [Addr.add] using c0
  · simpa [Addr.add, hj0] using c0
theorem ints_one {l : List Int} : ∀ u ∈ l.map (Value.int .i64), u.oneCell' = true := fun u hu => by
  obtain ⟨x, _, rfl⟩ := List.mem_map.1 hu; rfl
/-- A row of numbers of the call's own. -/
theorem ris_of_row {w : World} {lo : Nat} {v : Value} {l : List Int} {n : Nat} (h : w.ownsRow lo 3 1 v n (l.map (Value.int .i64))) (hn : n = l.length) (hx : l.length ≤ maxLen) : ∃ A cap, v = .slice A n cap ∧ RIs w w.heap.size A l := by
  subst hn
  rcases h.2 with ⟨rfl, h0⟩ | ⟨g, cap, cur, rfl, hb, hg, hnc, hcm, hcs, htake⟩
  · exact ⟨none, 0, by rw [h0], hx, fun k hk => absurd hk (by omega)⟩
  · refine ⟨_, cap, rfl, hx, fun k hk => ⟨g, 0, rfl, (h.lt g rfl).2, ?_⟩⟩
    rw [Nat.zero_add, h.cellAt k (by omega), List.getElem?_map, List.getElem?_eq_getElem hk]; rfl
theorem own_lit0 (w : World) : (w.alloc (.cells #[] 3)).ownsRow w.heap.size 3 1 (.slice (some ⟨w.heap.size, 0, none⟩) 0 0) 0 [] := by
  have h := World.ownsRow_lit (base := w.heap.size) (e := 3) (size := 1) w #[] 0 (by simp) (by simp) rfl
  simpa using h
set_option maxHeartbeats 800000 in
theorem l7Path_any (A : Option Addr) (p : List Int) (cap : Nat) (i : Int) (w : World) (hr : RIs w w.heap.size A p) (hp : p.length ≤ 4000000) :
    Calls Try.prog 65 #[.slice A p.length cap, .int .i64 i] w fun e w' => ∃ A' c', e = .returned (.slice A' (p.length + 1) c') ∧ RIs w' w'.heap.size A' (p ++ [i]) ∧ Below w.heap.size w w' := by
  obtain ⟨i0, hi0, hz0, hz1, hz2⟩ := info_parts infoIi
  have Hr := Lib.hid hr
  clear hr
  generalize hwa : w.alloc (.cells #[] 3) = wa
  have hba : Below w.heap.size w wa := by rw [← hwa]; exact (Below.refl _ _).alloc (Nat.le_refl _) _
  have HO : Hid (wa.ownsRow w.heap.size 3 1 (.slice (some ⟨w.heap.size, 0, none⟩) 0 0) 0 []) := by unfold Hid; rw [← hwa]; exact own_lit0 w
  have HN := Lib.hid ((Hr.out.at_ hba).news)
  have HL : Hid ((p.map (Value.int .i64)).length = p.length * 1) := by unfold Hid; simp
  have H1 := Lib.hid (ints_one (l := p))
  have HC3 : Hid (0 + p.length ≤ maxLen) := by unfold Hid maxLen; omega
  have HC4 : Hid ((0 + p.length) * 8 ≤ 140737488355328) := by unfold Hid; omega
  have HC5 := Lib.hid hba.size
  have HWA := Lib.hid hwa
  have HB := Lib.hid hba
  clear hwa hba
  go_enter Try.func65, Try.ntmps65
  go_wp2_with (at_builtin; rw [HWA.out]; refine wpList_append_own_any rfl _ _ 69 rfl w.heap.size 3 i0 (.int .i64 0) 1 8 Try.underlying69 hi0 hz0 hz1 hz2 rfl (by decide) (.slice (some ⟨w.heap.size, 0, none⟩) 0 0) 0 [] rfl HO.out A p.length cap (p.map (Value.int .i64)) rfl HL.out HN.out H1.out HC3.out HC4.out HC5.out ?_)
  intro v2 w2 hown hgr hat
  obtain ⟨A2, c2, rfl, hnb⟩ := own_form hown
  have hb2 : Below w.heap.size w w2 := (HB.out).grown hgr HB.out.size (fun k e => by have e2 : w.heap.size = k := (by simpa [Value.ownBlock] using e); omega)
  have HO2 : Hid (w2.ownsRow w.heap.size 3 1 (.slice A2 p.length c2) p.length (p.map (Value.int .i64))) := hown
  have HO3 := Lib.hid (HO2.out.alloc (.cells #[.int .i64 i] 3))
  have HD2 : Hid (p.length + 1 ≤ maxLen) := by unfold Hid maxLen; omega
  have HD3 : Hid ((p.length + 1) * 8 ≤ 140737488355328) := by unfold Hid; omega
  have HD4 : Hid (w.heap.size ≤ (w2.alloc (.cells #[.int .i64 i] 3)).heap.size) := by have := hb2.size; unfold Hid; simp; omega
  have HB2 := Lib.hid (hb2.alloc hb2.size (.cells #[.int .i64 i] 3))
  clear hown hgr hat hnb hb2
  go_wp2_with (at_builtin; refine wpList_append_own_any rfl _ _ 69 rfl w.heap.size 3 i0 (.int .i64 0) 1 8 Try.underlying69 hi0 hz0 hz1 hz2 rfl (by decide) (.slice A2 p.length c2) p.length (p.map (Value.int .i64)) rfl HO3.out (some ⟨w2.heap.size, 0, none⟩) 1 1 [.int .i64 i] rfl rfl (fun _ => ⟨_, rfl, cell_one_at _ _ _⟩) (by intro u hu; simp at hu; subst hu; rfl) HD2.out HD3.out HD4.out ?_)
  intro v3 w3 hown hgr hat
  have HO4 : Hid (w3.ownsRow w.heap.size 3 1 v3 (p.length + 1) ((p ++ [i]).map (Value.int .i64))) := by
    unfold Hid
    simpa using hown
  obtain ⟨A3, c3, rfl, hR3⟩ := ris_of_row HO4.out (by simp) (by unfold maxLen; simp; omega)
  have hob : ∀ k, (Value.slice A2 p.length c2).ownBlock = some k → w.heap.size ≤ k := fun k e => (own_form HO2.out).elim fun A h => h.elim fun c h => (h.2 k e).1
  have hb3 : Below w.heap.size w w3 := HB2.out.grown hgr HB2.out.size hob
  clear hown hgr hat
  go_wp2_with fail
  go_ret
  exact ⟨_, _, rfl, hR3, hb3⟩
set_option maxHeartbeats 800000 in
theorem clone_any (A : Option Addr) (p : List Int) (cap : Nat) (w : World) (hr : RIs w w.heap.size A p) (hp : p.length ≤ 4000000) :
    Calls Try.prog 67 #[.slice A p.length cap] w fun e w' => ∃ A' c', e = .returned (.slice A' p.length c') ∧ w'.ownsRow w.heap.size 3 1 (.slice A' p.length c') p.length (p.map (Value.int .i64)) ∧ Below w.heap.size w w' := by
  obtain ⟨i0, hi0, hz0, hz1, hz2⟩ := info_parts infoIi
  rcases A with _ | ad
  · have hp0 : p = [] := List.eq_nil_of_length_eq_zero (Nat.eq_zero_of_not_pos fun h => by obtain ⟨b, off, e, _⟩ := hr.2 0 h; cases e)
    subst hp0
    clear hr
    have hq : ∀ W : World, (binOp .eql 69 (.slice none 0 cap) (.slice none 0 0)).run Try.prog W = .ok (.bool true) W := fun W => Lib.run_eql_slice_nil W 69 3 none 0 cap 0 0 Try.underlying69
    go_enter Try.func67, Try.ntmps67
    go_wp2_with fail
    go_ret
    refine ⟨none, 0, rfl, ?_, Below.refl _ _⟩
    exact ⟨by simp, Or.inl ⟨rfl, by simp⟩⟩
  have hq : ∀ W : World, (binOp .eql 69 (.slice (some ad) p.length cap) (.slice none 0 0)).run Try.prog W = .ok (.bool false) W := fun W => Lib.run_eql_slice_nil W 69 3 (some ad) p.length cap 0 0 Try.underlying69
  have Hr := Lib.hid hr
  clear hr
  generalize hwa : w.alloc (.cells #[] 3) = wa
  have hba : Below w.heap.size w wa := by rw [← hwa]; exact (Below.refl _ _).alloc (Nat.le_refl _) _
  have HO : Hid (wa.ownsRow w.heap.size 3 1 (.slice (some ⟨w.heap.size, 0, none⟩) 0 0) 0 []) := by unfold Hid; rw [← hwa]; exact own_lit0 w
  have HN := Lib.hid ((Hr.out.at_ hba).news)
  have HL : Hid ((p.map (Value.int .i64)).length = p.length * 1) := by unfold Hid; simp
  have H1 := Lib.hid (ints_one (l := p))
  have HC3 : Hid (0 + p.length ≤ maxLen) := by unfold Hid maxLen; omega
  have HC4 : Hid ((0 + p.length) * 8 ≤ 140737488355328) := by unfold Hid; omega
  have HC5 := Lib.hid hba.size
  have HWA := Lib.hid hwa
  have HB := Lib.hid hba
  clear hwa hba
  go_enter Try.func67, Try.ntmps67
  go_wp2_with (at_builtin; rw [HWA.out]; refine wpList_append_own_any rfl _ _ 69 rfl w.heap.size 3 i0 (.int .i64 0) 1 8 Try.underlying69 hi0 hz0 hz1 hz2 rfl (by decide) (.slice (some ⟨w.heap.size, 0, none⟩) 0 0) 0 [] rfl HO.out (some ad) p.length cap (p.map (Value.int .i64)) rfl HL.out HN.out H1.out HC3.out HC4.out HC5.out ?_)
  intro v2 w2 hown hgr hat
  obtain ⟨A2, c2, rfl, hnb⟩ := own_form hown
  have hb2 : Below w.heap.size w w2 := (HB.out).grown hgr HB.out.size (fun k e => by have e2 : w.heap.size = k := (by simpa [Value.ownBlock] using e); omega)
  have HO2 : Hid (w2.ownsRow w.heap.size 3 1 (.slice A2 p.length c2) p.length (p.map (Value.int .i64))) := hown
  clear hown hgr hat hnb
  go_wp2_with fail
  go_ret
  exact ⟨A2, c2, rfl, HO2.out, hb2⟩
end Go.Proofs.Ytnfjjabeobcenaa
