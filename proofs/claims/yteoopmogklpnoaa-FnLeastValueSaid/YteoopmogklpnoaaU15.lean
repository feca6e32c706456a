/-
  The types of a world in a row; the types that have a value with arguments of known types, and the others, in two rows. No statement is proved here.
-/
import Derived.Test.YteoopmogklpnoaaU14
import Derived.Maps.AppendAt
namespace Go.Proofs.Yteoopmogklpnoaa
open Go.RowKit
set_option maxRecDepth 100000
set_option linter.unusedVariables false
theorem types_at {n k i : Nat} (hi : i < 4) (h : k * 4 + 1 + i < (tysN n).length) : (tysN n)[k * 4 + 1 + i] = ⟨k, i⟩ := by
  have e : (tysN n)[k * 4 + 1 + i]? = some (tyAt (k * 4 + i)) := by
    rw [show k * 4 + 1 + i = (k * 4 + i) + 1 by omega]
    unfold tysN
    rw [List.getElem?_cons_succ, List.getElem?_map]
    rw [tysN_len] at h
    rw [List.getElem?_range (by omega)]
    rfl
  rw [List.getElem?_eq_getElem h] at e
  injection e with e
  rw [e]
  unfold tyAt
  congr 1 <;> omega
theorem OTys.snoc {w w1 : World} {lo : Nat} {v v' : Value} {l : List Ty} {k : Nat} {xs : List Value} {d i : Int} (hx : TyRow l xs k) (hk : k < l.length) (hxl : xs.length = k * 2) (ho : w1.ownsRow lo 25 2 v' (k + 1) (xs ++ [.int .i64 d, .int .i64 i])) (e : l[k] = ⟨d, i⟩) : OTys w1 lo v' l (k + 1) := by
  have := hx.snoc hk hxl
  rw [e] at this
  exact ⟨_, ho, this⟩
set_option maxHeartbeats 800000 in
theorem typesOf_any (A : Option Addr) (n cap : Nat) (w : World) (hn : n ≤ 4) :
    Calls Try.prog 93 #[.slice A n cap] w fun e w' => ∃ v, e = .returned v ∧ OTys w' w.heap.size v (tysN n) (tysN n).length ∧ Below w.heap.size w w' := by
  obtain ⟨i0, hi, hz0, hz1, hz2⟩ := info_parts info34
  have hL := tysN_len n
  have HL := Lib.hid hL
  have HE : Hid (∀ (k i : Nat) (hi : i < 4) (h : k * 4 + 1 + i < (tysN n).length), (tysN n)[k * 4 + 1 + i] = ⟨k, i⟩) := fun k i hi h => types_at hi h
  clear hL
  have HO0 : Hid (OTys (w.alloc (.cells #[.int .i64 (-1), .int .i64 0] 25)) w.heap.size (.slice (some ⟨w.heap.size, 0, none⟩) 1 1) (tysN n) 1) := by
    refine ⟨[.int .i64 (-1), .int .i64 0], ?_, ?_⟩
    · have := World.ownsRow_lit (base := w.heap.size) (e := 25) (size := 2) w #[.int .i64 (-1), .int .i64 0] 1 (Nat.le_refl _) (by unfold maxLen; omega) rfl
      simpa using this
    · intro j hj hj1
      have : j = 0 := by omega
      subst this
      exact ⟨rfl, rfl⟩
  have HB0 : Hid (∀ o : Obj, Below w.heap.size w (w.alloc o)) := fun o => (Below.refl _ _).alloc (Nat.le_refl _) _
  go_enter Try.func93, Try.ntmps93
  go_wp2_with fail
  go_loopw [3, 10] (fun v i wr => ∃ k : Nat, k ≤ n ∧ i = .int .i64 k ∧ OTys wr w.heap.size v (tysN n) (k * 4 + 1) ∧ Below w.heap.size w wr) (fun _ i _ => n - (intOf i).toNat)
  case atStart => exact ⟨0, by omega, rfl, HO0.out, HB0.out _⟩
  case round =>
    clear HO0 HB0
    obtain ⟨k, hk, rfl, ho, hb⟩ := hrel
    by_cases hlt : k < n
    · have HO := Lib.hid ho
      clear ho
      go_wp2_with fail
      go_loopw [3, 5] (fun v i wr => ∃ j : Nat, j ≤ 4 ∧ i = .int .i64 j ∧ OTys wr w.heap.size v (tysN n) (k * 4 + 1 + j) ∧ Below w.heap.size w wr) (fun _ i _ => 4 - (intOf i).toNat)
      case atStart => exact ⟨0, by omega, rfl, HO.out, hb⟩
      case round =>
        clear HO hb
        obtain ⟨j, hj, rfl, ⟨xs, ho, hx⟩, hb⟩ := hrel
        have hsz := hb.size
        by_cases hjt : j < 4
        · have hjI : (j : Int) ≤ 3 := by omega
          have hkl : k * 4 + 1 + j < n * 4 + 1 := by omega
          have HO := Lib.hid ho
          have HX := Lib.hid hx
          clear ho hx
          go_wp2_with (at_builtin; refine wpList_append_own _ rfl _ _ 32 rfl w.heap.size 25 i0 (.agg #[.int .i64 0, .int .i64 0]) 2 16 Try.underlying32 hi hz0 hz1 hz2 rfl (by decide) _ _ _ rfl (HO.out.alloc _) ⟨wr.heap.size, 0, none⟩ 1 1 [.int .i64 k, .int .i64 j] rfl rfl ?c1 ?c2 ?c3 ?c4 ?c5 ?_)
          case c1 => exact cell_two_new _ _ _ _
          case c2 => intro u hu; simp at hu; rcases hu with rfl | rfl <;> rfl
          case c3 => unfold maxLen; omega
          case c4 => omega
          case c5 => simp; omega
          intro v' w1 hown' hgrow hnn
          have hb3 : Below w.heap.size w w1 := (hb.alloc (by omega) _).grown hgrow (by simp; omega) (fun g' e => (HO.out.lt g' e).1)
          have HO3 : Hid (OTys w1 w.heap.size v' (tysN n) (k * 4 + 1 + (j + 1))) := OTys.snoc (w := w) (v := v') HX.out (by rw [HL.out]; exact hkl) HO.out.1 hown' (HE.out k j hjt _)
          clear hown' hgrow hnn HO HX
          go_wp2_with fail
          go_roundw
          case rel => exact ⟨j + 1, by omega, by go_num, HO3.out, hb3⟩
          case measure => simp [intOf]; omega
        · have hjI : 3 < (j : Int) := by omega
          have hje : j = 4 := by omega
          have HO : Hid (OTys wr w.heap.size u3 (tysN n) ((k + 1) * 4 + 1)) := by
            have : (k + 1) * 4 + 1 = k * 4 + 1 + j := by omega
            unfold Hid; rw [this]; exact ⟨xs, ho, hx⟩
          clear ho hx hje
          go_wp2_with fail
          go_roundw
          case rel => exact ⟨k + 1, by omega, by go_num, HO.out, hb⟩
          case measure => simp [intOf]; omega
    · have he : (tysN n).length = k * 4 + 1 := by rw [HL.out]; omega
      have HO : Hid (OTys wr w.heap.size u3 (tysN n) (tysN n).length) := by unfold Hid; rw [he]; exact ho
      clear he ho
      go_wp2_with fail
      go_ret
      exact ⟨_, rfl, HO.out, hb⟩
end Go.Proofs.Yteoopmogklpnoaa
/-
  The types that have a value with arguments of known types, and the others, in two rows. No statement is proved here.
-/
namespace Go.Proofs.Yteoopmogklpnoaa
open Go.RowKit
set_option maxRecDepth 100000
set_option linter.unusedVariables false
/-- Two rows that share no block. -/
def Apart (v u : Value) : Prop := ∀ g, v.ownBlock = some g → u.ownBlock = some g → False
theorem Apart.symm {v u : Value} (h : Apart v u) : Apart u v := fun g a b => h g b a
theorem Apart.ne {v u : Value} (h : Apart v u) : u.ownBlock = none ∨ u.ownBlock ≠ v.ownBlock := by
  cases e : u.ownBlock with
  | none => exact .inl rfl
  | some g => exact .inr (fun e2 => h g e2.symm e)
theorem OTys.lt {w : World} {lo : Nat} {v : Value} {l : List Ty} {k : Nat} (h : OTys w lo v l k) : ∀ g, v.ownBlock = some g → lo ≤ g ∧ g < w.heap.size := by
  obtain ⟨xs, ho, _⟩ := h
  exact ho.lt
theorem OTys.kept {w w' : World} {lo : Nat} {v u : Value} {l : List Ty} {k : Nat} (h : OTys w lo u l k) (hg : w.grownBy w' v.ownBlock) (ha : Apart v u) : OTys w' lo u l k := by
  obtain ⟨xs, ho, hx⟩ := h
  exact ⟨xs, ho.kept hg ha.ne, hx⟩
theorem OTys.alloc {w : World} {lo : Nat} {u : Value} {l : List Ty} {k : Nat} (h : OTys w lo u l k) (o : Obj) : OTys (w.alloc o) lo u l k := by
  obtain ⟨xs, ho, hx⟩ := h
  exact ⟨xs, ho.alloc o, hx⟩
theorem OTys.at_ {w w' : World} {lo : Nat} {u : Value} {l : List Ty} {k : Nat} (h : OTys w lo u l k) (hb : Below w.heap.size w w') : OTys w' lo u l k := by
  obtain ⟨xs, ho, hx⟩ := h
  exact ⟨xs, own_below ho hb, hx⟩
theorem OTys.nil (w : World) (lo : Nat) : OTys w lo (.slice none 0 0) [] 0 := ⟨[], World.ownsRow_nil _ _ _ _, TyRow.zero _ _⟩
theorem TyRow.app {l : List Ty} {xs : List Value} {t : Ty} (h : TyRow l xs l.length) (hx : xs.length = l.length * 2) : TyRow (l ++ [t]) (xs ++ [.int .i64 t.data, .int .i64 t.index]) (l.length + 1) := by
  intro j hj hjk
  by_cases e : j = l.length
  · subst e
    constructor
    · rw [List.getElem?_append_right (by omega), hx]; simp
    · rw [List.getElem?_append_right (by omega), hx]; simp
  · have hjl : j < l.length := by omega
    obtain ⟨a, b⟩ := h j hjl hjl
    rw [List.getElem_append_left hjl]
    constructor
    · rw [List.getElem?_append_left (by omega)]; exact a
    · rw [List.getElem?_append_left (by omega)]; exact b
theorem OTys.app {w : World} {lo : Nat} {v : Value} {l : List Ty} {xs : List Value} {t : Ty} (h : TyRow l xs l.length) (hx : xs.length = l.length * 2) (ho : w.ownsRow lo 25 2 v (l.length + 1) (xs ++ [.int .i64 t.data, .int .i64 t.index])) : OTys w lo v (l ++ [t]) (l ++ [t]).length := by
  have e : (l ++ [t]).length = l.length + 1 := by simp
  rw [e]
  exact ⟨_, ho, h.app hx⟩
/-- Those of the first k for which P holds. -/
noncomputable def fil (P : Ty → Prop) (U : List Ty) (k : Nat) : List Ty := (U.take k).filter (fun t => dec (P t))
theorem fil_zero (P : Ty → Prop) (U : List Ty) : fil P U 0 = [] := by simp [fil]
theorem fil_yes {P : Ty → Prop} {U : List Ty} {k : Nat} (hk : k < U.length) (h : P U[k]) : fil P U (k + 1) = fil P U k ++ [U[k]] := by
  unfold fil
  rw [List.take_succ_eq_append_getElem hk, List.filter_append]
  simp [dec_t h]
theorem fil_no {P : Ty → Prop} {U : List Ty} {k : Nat} (hk : k < U.length) (h : ¬ P U[k]) : fil P U (k + 1) = fil P U k := by
  unfold fil
  rw [List.take_succ_eq_append_getElem hk, List.filter_append]
  simp [dec_f h]
theorem fil_len (P : Ty → Prop) (U : List Ty) (k : Nat) : (fil P U k).length ≤ U.length := by
  unfold fil
  exact Nat.le_trans (List.length_filter_le _ _) (List.length_take_le' _ _)
set_option maxHeartbeats 1600000 in
theorem splitMade_any (A A2 : Option Addr) (U : List Ty) (D : List Da) (cap cap2 : Nat) (mb n : Nat) (F : Ty → Int) (S : Ty → Prop) (w : World) (hr : RDas w w.heap.size A D) (hU : RTys w w.heap.size A2 U) (hin : ∀ t ∈ U, t ∈ tysN D.length) (hw : WorldOK D) (hm : MapTy w mb n F S) (hpos : ∀ t ∈ tysN 4, S t → 0 < F t ∧ F t ≤ 5000) (hUl : U.length ≤ 17) :
    Calls Try.prog 94 #[.slice A D.length cap, .slice A2 U.length cap2, .map (some mb)] w fun e w' => ∃ v u, e = .returned (.tuple #[v, u]) ∧ OTys w' w.heap.size v (fil (mkF D S) U U.length) (fil (mkF D S) U U.length).length ∧ OTys w' w.heap.size u (fil (fun t => ¬ mkF D S t) U U.length) (fil (fun t => ¬ mkF D S t) U U.length).length ∧ Below w.heap.size w w' := by
  obtain ⟨i0, hi, hz0, hz1, hz2⟩ := info_parts info34
  have Hr := Lib.hid hr
  have HU := Lib.hid hU
  have HI := Lib.hid hin
  have HW := Lib.hid hw
  have HM := Lib.hid hm
  have HP := Lib.hid hpos
  have hz1' := fil_zero (mkF D S) U
  have hz2' := fil_zero (fun t => ¬ mkF D S t) U
  have HZ1 := Lib.hid hz1'
  have HZ2 := Lib.hid hz2'
  clear hr hU hin hw hm hpos hz1' hz2'
  have HA0 : Hid (Apart (.slice none 0 0) (.slice none 0 0)) := fun g h => by simp [Value.ownBlock] at h
  go_enter Try.func94, Try.ntmps94
  go_wp2_with fail
  go_loopw [6, 7, 12] (fun v u i wr => ∃ k : Nat, k ≤ U.length ∧ i = .int .i64 k ∧ OTys wr w.heap.size v (fil (mkF D S) U k) (fil (mkF D S) U k).length ∧ OTys wr w.heap.size u (fil (fun t => ¬ mkF D S t) U k) (fil (fun t => ¬ mkF D S t) U k).length ∧ Apart v u ∧ Below w.heap.size w wr) (fun _ _ i _ => U.length - (intOf i).toNat)
  case atStart => exact ⟨0, by omega, rfl, by rw [HZ1.out]; exact OTys.nil _ _, by rw [HZ2.out]; exact OTys.nil _ _, HA0.out, Below.refl _ _⟩
  case round =>
    clear HZ1 HZ2 HA0
    obtain ⟨k, hk, rfl, ho1, ho2, hap, hb⟩ := hrel
    have hsz := hb.size
    by_cases hlt : k < U.length
    · obtain ⟨b, off, rfl, hbB, c0, c1⟩ := (HU.out.below hb (Nat.le_refl _)).2 k hlt
      have hkI : (k : Int) < (U.length : Int) := by omega
      have HO1 := Lib.hid ho1
      have HO2 := Lib.hid ho2
      have HAP := Lib.hid hap
      have HT := Lib.hid (HI.out U[k] (List.getElem_mem hlt))
      have HRr : Hid (∀ o : Obj, RDas (wr.alloc o) (wr.alloc o).heap.size A D) := fun o => Hr.out.keep (fun p hp => (keep_one o p (by omega)).trans (hb.cell hp)) (by simp; omega)
      have HMr : Hid (∀ o : Obj, MapTy (wr.alloc o) mb n F S) := fun o => (HM.out.at_ hb).at_ ((Below.refl _ _).alloc (Nat.le_refl _) o)
      clear ho1 ho2 hap
      by_cases hs : mkF D S U[k]
      · have HC := Lib.hid (dec_t hs)
        have HY := Lib.hid (fil_yes (P := mkF D S) hlt hs)
        have HN := Lib.hid (fil_no (P := fun t => ¬ mkF D S t) hlt (fun h => h hs))
        have hfl := fil_len (mkF D S) U k
        clear hs
        go_wp2_with fail
        refine (hasMade_any _ _ _ _ _ _ _ _ _ (HRr.out _) HT.out HW.out (HMr.out _) HP.out).mono ?_
        rw [HC.out]
        rintro e w1 ⟨rfl, hb1⟩
        have hb2 : Below w.heap.size w w1 := hb.trans ((below_one hb1).mono hsz)
        have HX1 := Lib.hid (HO1.out.at_ (below_one hb1))
        have HX2 := Lib.hid (HO2.out.at_ (below_one hb1))
        have d0 : w1.cell? ⟨wr.heap.size, 0, none⟩ = some (.int .i64 U[k].data) := (hb1.cell (p := ⟨wr.heap.size, 0, none⟩) (by simp)).trans (by simp [go_sem])
        have d1 : w1.cell? ⟨wr.heap.size, 1, none⟩ = some (.int .i64 U[k].index) := (hb1.cell (p := ⟨wr.heap.size, 1, none⟩) (by simp)).trans (by simp [go_sem])
        have hs1 := hb2.size
        clear hb1 HO1 HO2 HRr HMr hb hsz c0 c1
        obtain ⟨xs, ho, hx⟩ := HX1.out
        have HO := Lib.hid ho
        have HX := Lib.hid hx
        clear ho hx HX1
        go_wp2_with (at_builtin; refine wpList_append_own_at _ rfl _ _ 32 rfl w.heap.size 25 i0 (.agg #[.int .i64 0, .int .i64 0]) 2 16 Try.underlying32 hi hz0 hz1 hz2 rfl (by decide) _ _ _ rfl (HO.out.alloc _) ⟨w1.heap.size, 0, none⟩ 1 1 [.int .i64 U[k].data, .int .i64 U[k].index] rfl rfl ?c1 ?c2 ?c3 ?c4 ?c5 ?_)
        case c1 => exact cell_two_new _ _ _ _
        case c2 => intro u hu; simp at hu; rcases hu with rfl | rfl <;> rfl
        case c3 => unfold maxLen; omega
        case c4 => omega
        case c5 => simp; omega
        intro v' w2 hown' hgrow hnn hat
        have hb3 : Below w.heap.size w w2 := (hb2.alloc (by omega) _).grown hgrow (by simp; omega) (fun g' e => (HO.out.lt g' e).1)
        have HO3 : Hid (OTys w2 w.heap.size v' (fil (mkF D S) U (k + 1)) (fil (mkF D S) U (k + 1)).length) := by unfold Hid; rw [HY.out]; exact OTys.app HX.out HO.out.1 hown'
        have HO4 : Hid (OTys w2 w.heap.size u7 (fil (fun t => ¬ mkF D S t) U (k + 1)) (fil (fun t => ¬ mkF D S t) U (k + 1)).length) := by unfold Hid; rw [HN.out]; exact (HX2.out.alloc _).kept hgrow HAP.out
        have HA : Hid (Apart v' u7) := fun g e1 e2 => by
          rcases hat with h | h
          · exact HAP.out g (h ▸ e1) e2
          · rw [h] at e1
            have h3 := (HX2.out.lt g e2).2
            injection e1 with e1
            omega
        clear hown' hgrow hnn hat HO HX HX2 d0 d1 HAP
        go_wp2_with fail
        go_roundw
        case rel => exact ⟨k + 1, by omega, by go_num, HO3.out, HO4.out, HA.out, hb3⟩
        case measure => simp [intOf]; omega
      · have HC := Lib.hid (dec_f hs)
        have HY := Lib.hid (fil_yes (P := fun t => ¬ mkF D S t) hlt hs)
        have HN := Lib.hid (fil_no (P := mkF D S) hlt hs)
        have hfl := fil_len (fun t => ¬ mkF D S t) U k
        clear hs
        go_wp2_with fail
        refine (hasMade_any _ _ _ _ _ _ _ _ _ (HRr.out _) HT.out HW.out (HMr.out _) HP.out).mono ?_
        rw [HC.out]
        rintro e w1 ⟨rfl, hb1⟩
        have hb2 : Below w.heap.size w w1 := hb.trans ((below_one hb1).mono hsz)
        have HX1 := Lib.hid (HO1.out.at_ (below_one hb1))
        have HX2 := Lib.hid (HO2.out.at_ (below_one hb1))
        have d0 : w1.cell? ⟨wr.heap.size, 0, none⟩ = some (.int .i64 U[k].data) := (hb1.cell (p := ⟨wr.heap.size, 0, none⟩) (by simp)).trans (by simp [go_sem])
        have d1 : w1.cell? ⟨wr.heap.size, 1, none⟩ = some (.int .i64 U[k].index) := (hb1.cell (p := ⟨wr.heap.size, 1, none⟩) (by simp)).trans (by simp [go_sem])
        have hs1 := hb2.size
        clear hb1 HO1 HO2 HRr HMr hb hsz c0 c1
        obtain ⟨xs, ho, hx⟩ := HX2.out
        have HO := Lib.hid ho
        have HX := Lib.hid hx
        clear ho hx HX2
        go_wp2_with (at_builtin; refine wpList_append_own_at _ rfl _ _ 32 rfl w.heap.size 25 i0 (.agg #[.int .i64 0, .int .i64 0]) 2 16 Try.underlying32 hi hz0 hz1 hz2 rfl (by decide) _ _ _ rfl (HO.out.alloc _) ⟨w1.heap.size, 0, none⟩ 1 1 [.int .i64 U[k].data, .int .i64 U[k].index] rfl rfl ?d1 ?d2 ?d3 ?d4 ?d5 ?_)
        case d1 => exact cell_two_new _ _ _ _
        case d2 => intro u hu; simp at hu; rcases hu with rfl | rfl <;> rfl
        case d3 => unfold maxLen; omega
        case d4 => omega
        case d5 => simp; omega
        intro v' w2 hown' hgrow hnn hat
        have hb3 : Below w.heap.size w w2 := (hb2.alloc (by omega) _).grown hgrow (by simp; omega) (fun g' e => (HO.out.lt g' e).1)
        have HO3 : Hid (OTys w2 w.heap.size v' (fil (fun t => ¬ mkF D S t) U (k + 1)) (fil (fun t => ¬ mkF D S t) U (k + 1)).length) := by unfold Hid; rw [HY.out]; exact OTys.app HX.out HO.out.1 hown'
        have HO4 : Hid (OTys w2 w.heap.size u6 (fil (mkF D S) U (k + 1)) (fil (mkF D S) U (k + 1)).length) := by unfold Hid; rw [HN.out]; exact (HX1.out.alloc _).kept hgrow HAP.out.symm
        have HA : Hid (Apart u6 v') := fun g e1 e2 => by
          rcases hat with h | h
          · exact HAP.out g e1 (h ▸ e2)
          · rw [h] at e2
            have h3 := (HX1.out.lt g e1).2
            injection e2 with e2
            omega
        clear hown' hgrow hnn hat HO HX HX1 d0 d1 HAP
        go_wp2_with fail
        go_roundw
        case rel => exact ⟨k + 1, by omega, by go_num, HO4.out, HO3.out, HA.out, hb3⟩
        case measure => simp [intOf]; omega
    · have he : k = U.length := by omega
      have HO1 : Hid (OTys wr w.heap.size u6 (fil (mkF D S) U U.length) (fil (mkF D S) U U.length).length) := by unfold Hid; rw [← he]; exact ho1
      have HO2 : Hid (OTys wr w.heap.size u7 (fil (fun t => ¬ mkF D S t) U U.length) (fil (fun t => ¬ mkF D S t) U U.length).length) := by unfold Hid; rw [← he]; exact ho2
      clear he ho1 ho2
      go_wp2_with fail
      go_ret2
      exact ⟨_, _, rfl, HO1.out, HO2.out, hb⟩
end Go.Proofs.Yteoopmogklpnoaa
