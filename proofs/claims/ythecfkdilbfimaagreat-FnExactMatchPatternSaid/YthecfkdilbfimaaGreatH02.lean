/-
  The types of a world in a row; the types that have a value with arguments of known types, and the others, in two rows. No statement is proved here.
-/
import Derived.Test.YthecfkdilbfimaaGreatH01
import Derived.Maps.AppendAt
namespace Go.Proofs.YthecfkdilbfimaaGreat
open Go.RowKit
set_option maxRecDepth 100000
set_option linter.unusedVariables false

theorem types_at {n k i : Nat} (hi : i < 4) (h : k * 4 + 1 + i < (tysN n).length) : (tysN n)[k * 4 + 1 + i] = ⟨k, i⟩ := by
  have e : (tysN n)[k * 4 + 1 + i]? = some (tyAt (k * 4 + i)) := by
    rw [show k * 4 + 1 + i = (k * 4 + i) + 1 by omega]
    unfold tysN
    rw [List.getElem?_cons_succ, List.getElem?_map]
    rw [tysN_len] at h
    rw [List.getElem?_range (by omega)]
    rfl
  rw [List.getElem?_eq_getElem h] at e
  injection e with e
  rw [e]
  unfold tyAt
  congr 1 <;> omega

theorem OTys.snoc {w w1 : World} {lo : Nat} {v v' : Value} {l : List Ty} {k : Nat} {xs : List Value} {d i : Int} (hx : TyRow l xs k) (hk : k < l.length) (hxl : xs.length = k * 2) (ho : w1.ownsRow lo 31 2 v' (k + 1) (xs ++ [.int .i64 d, .int .i64 i])) (e : l[k] = ⟨d, i⟩) : OTys w1 lo v' l (k + 1) := by
  have := hx.snoc hk hxl
  rw [e] at this
  exact ⟨_, ho, this⟩

set_option maxHeartbeats 800000 in
theorem typesOf_any (A : Option Addr) (n cap : Nat) (w : World) (hn : n ≤ 4) :
    Calls Tryz.prog 173 #[.slice A n cap] w fun e w' => ∃ v, e = .returned v ∧ OTys w' w.heap.size v (tysN n) (tysN n).length ∧ Below w.heap.size w w' := by
  obtain ⟨i0, hi, hz0, hz1, hz2⟩ := info_parts info34
  have hL := tysN_len n
  have HL := Lib.hid hL
  have HE : Hid (∀ (k i : Nat) (hi : i < 4) (h : k * 4 + 1 + i < (tysN n).length), (tysN n)[k * 4 + 1 + i] = ⟨k, i⟩) := fun k i hi h => types_at hi h
  clear hL
  have HO0 : Hid (OTys (w.alloc (.cells #[.int .i64 (-1), .int .i64 0] 31)) w.heap.size (.slice (some ⟨w.heap.size, 0, none⟩) 1 1) (tysN n) 1) := by
    refine ⟨[.int .i64 (-1), .int .i64 0], ?_, ?_⟩
    · have := World.ownsRow_lit (base := w.heap.size) (e := 31) (size := 2) w #[.int .i64 (-1), .int .i64 0] 1 (Nat.le_refl _) (by unfold maxLen; omega) rfl
      simpa using this
    · intro j hj hj1
      have : j = 0 := by omega
      subst this
      exact ⟨rfl, rfl⟩
  have HB0 : Hid (∀ o : Obj, Below w.heap.size w (w.alloc o)) := fun o => (Below.refl _ _).alloc (Nat.le_refl _) _
  go_enter Tryz.func173, Tryz.ntmps173
  go_wp2_with fail
  go_loopw [3, 10] (fun v i wr => ∃ k : Nat, k ≤ n ∧ i = .int .i64 k ∧ OTys wr w.heap.size v (tysN n) (k * 4 + 1) ∧ Below w.heap.size w wr) (fun _ i _ => n - (intOf i).toNat)
  case atStart => exact ⟨0, by omega, rfl, HO0.out, HB0.out _⟩
  case round =>
    clear HO0 HB0
    obtain ⟨k, hk, rfl, ho, hb⟩ := hrel
    by_cases hlt : k < n
    · have HO := Lib.hid ho
      clear ho
      go_wp2_with fail
      go_loopw [3, 5] (fun v i wr => ∃ j : Nat, j ≤ 4 ∧ i = .int .i64 j ∧ OTys wr w.heap.size v (tysN n) (k * 4 + 1 + j) ∧ Below w.heap.size w wr) (fun _ i _ => 4 - (intOf i).toNat)
      case atStart => exact ⟨0, by omega, rfl, HO.out, hb⟩
      case round =>
        clear HO hb
        obtain ⟨j, hj, rfl, ⟨xs, ho, hx⟩, hb⟩ := hrel
        have hsz := hb.size
        by_cases hjt : j < 4
        · have hjI : (j : Int) ≤ 3 := by omega
          have hkl : k * 4 + 1 + j < n * 4 + 1 := by omega
          have HO := Lib.hid ho
          have HX := Lib.hid hx
          clear ho hx
          go_wp2_with (at_builtin; refine wpList_append_own _ rfl _ _ 161 rfl w.heap.size 31 i0 (.agg #[.int .i64 0, .int .i64 0]) 2 16 Tryz.underlying161 hi hz0 hz1 hz2 rfl (by decide) _ _ _ rfl (HO.out.alloc _) ⟨wr.heap.size, 0, none⟩ 1 1 [.int .i64 k, .int .i64 j] rfl rfl ?c1 ?c2 ?c3 ?c4 ?c5 ?_)
          case c1 => exact cell_two_new _ _ _ _
          case c2 => intro u hu; simp at hu; rcases hu with rfl | rfl <;> rfl
          case c3 => unfold maxLen; omega
          case c4 => omega
          case c5 => simp; omega
          intro v' w1 hown' hgrow hnn
          have hb3 : Below w.heap.size w w1 := (hb.alloc (by omega) _).grown hgrow (by simp; omega) (fun g' e => (HO.out.lt g' e).1)
          have HO3 : Hid (OTys w1 w.heap.size v' (tysN n) (k * 4 + 1 + (j + 1))) := OTys.snoc (w := w) (v := v') HX.out (by rw [HL.out]; exact hkl) HO.out.1 hown' (HE.out k j hjt _)
          clear hown' hgrow hnn HO HX
          go_wp2_with fail
          go_roundw
          case rel => exact ⟨j + 1, by omega, by go_num, HO3.out, hb3⟩
          case measure => simp [intOf]; omega
        · have hjI : 3 < (j : Int) := by omega
          have hje : j = 4 := by omega
          have HO : Hid (OTys wr w.heap.size u3 (tysN n) ((k + 1) * 4 + 1)) := by
            have : (k + 1) * 4 + 1 = k * 4 + 1 + j := by omega
            unfold Hid; rw [this]; exact ⟨xs, ho, hx⟩
          clear ho hx hje
          go_wp2_with fail
          go_roundw
          case rel => exact ⟨k + 1, by omega, by go_num, HO.out, hb⟩
          case measure => simp [intOf]; omega
    · have he : (tysN n).length = k * 4 + 1 := by rw [HL.out]; omega
      have HO : Hid (OTys wr w.heap.size u3 (tysN n) (tysN n).length) := by unfold Hid; rw [he]; exact ho
      clear he ho
      go_wp2_with fail
      go_ret
      exact ⟨_, rfl, HO.out, hb⟩
end Go.Proofs.YthecfkdilbfimaaGreat
/-
  The types that have a value with arguments of known types, and the others, in two rows. No statement is proved here.
-/
namespace Go.Proofs.YthecfkdilbfimaaGreat
open Go.RowKit
set_option maxRecDepth 100000
set_option linter.unusedVariables false

/-- Two rows that share no block. -/
def Apart (v u : Value) : Prop := ∀ g, v.ownBlock = some g → u.ownBlock = some g → False
theorem Apart.symm {v u : Value} (h : Apart v u) : Apart u v := fun g a b => h g b a
theorem Apart.ne {v u : Value} (h : Apart v u) : u.ownBlock = none ∨ u.ownBlock ≠ v.ownBlock := by
  cases e : u.ownBlock with
  | none => exact .inl rfl
  | some g => exact .inr (fun e2 => h g e2.symm e)
theorem OTys.lt {w : World} {lo : Nat} {v : Value} {l : List Ty} {k : Nat} (h : OTys w lo v l k) : ∀ g, v.ownBlock = some g → lo ≤ g ∧ g < w.heap.size := by
  obtain ⟨xs, ho, _⟩ := h
  exact ho.lt
theorem OTys.kept {w w' : World} {lo : Nat} {v u : Value} {l : List Ty} {k : Nat} (h : OTys w lo u l k) (hg : w.grownBy w' v.ownBlock) (ha : Apart v u) : OTys w' lo u l k := by
  obtain ⟨xs, ho, hx⟩ := h
  exact ⟨xs, ho.kept hg ha.ne, hx⟩
theorem OTys.alloc {w : World} {lo : Nat} {u : Value} {l : List Ty} {k : Nat} (h : OTys w lo u l k) (o : Obj) : OTys (w.alloc o) lo u l k := by
  obtain ⟨xs, ho, hx⟩ := h
  exact ⟨xs, ho.alloc o, hx⟩
theorem OTys.at_ {w w' : World} {lo : Nat} {u : Value} {l : List Ty} {k : Nat} (h : OTys w lo u l k) (hb : Below w.heap.size w w') : OTys w' lo u l k := by
  obtain ⟨xs, ho, hx⟩ := h
  exact ⟨xs, own_below ho hb, hx⟩
theorem OTys.nil (w : World) (lo : Nat) : OTys w lo (.slice none 0 0) [] 0 := ⟨[], World.ownsRow_nil _ _ _ _, TyRow.zero _ _⟩
theorem TyRow.app {l : List Ty} {xs : List Value} {t : Ty} (h : TyRow l xs l.length) (hx : xs.length = l.length * 2) : TyRow (l ++ [t]) (xs ++ [.int .i64 t.data, .int .i64 t.index]) (l.length + 1) := by
  intro j hj hjk
  by_cases e : j = l.length
  · subst e
    constructor
    · rw [List.getElem?_append_right (by omega), hx]; simp
    · rw [List.getElem?_append_right (by omega), hx]; simp
  · have hjl : j < l.length := by omega
    obtain ⟨a, b⟩ := h j hjl hjl
    rw [List.getElem_append_left hjl]
    constructor
    · rw [List.getElem?_append_left (by omega)]; exact a
    · rw [List.getElem?_append_left (by omega)]; exact b
theorem OTys.app {w : World} {lo : Nat} {v : Value} {l : List Ty} {xs : List Value} {t : Ty} (h : TyRow l xs l.length) (hx : xs.length = l.length * 2) (ho : w.ownsRow lo 31 2 v (l.length + 1) (xs ++ [.int .i64 t.data, .int .i64 t.index])) : OTys w lo v (l ++ [t]) (l ++ [t]).length := by
  have e : (l ++ [t]).length = l.length + 1 := by simp
  rw [e]
  exact ⟨_, ho, h.app hx⟩

/-- Those of the first k for which P holds. -/
noncomputable def fil (P : Ty → Prop) (U : List Ty) (k : Nat) : List Ty := (U.take k).filter (fun t => dec (P t))
theorem fil_zero (P : Ty → Prop) (U : List Ty) : fil P U 0 = [] := by simp [fil]
theorem fil_yes {P : Ty → Prop} {U : List Ty} {k : Nat} (hk : k < U.length) (h : P U[k]) : fil P U (k + 1) = fil P U k ++ [U[k]] := by
  unfold fil
  rw [List.take_succ_eq_append_getElem hk, List.filter_append]
  simp [dec_t h]
theorem fil_no {P : Ty → Prop} {U : List Ty} {k : Nat} (hk : k < U.length) (h : ¬ P U[k]) : fil P U (k + 1) = fil P U k := by
  unfold fil
  rw [List.take_succ_eq_append_getElem hk, List.filter_append]
  simp [dec_f h]
theorem fil_len (P : Ty → Prop) (U : List Ty) (k : Nat) : (fil P U k).length ≤ U.length := by
  unfold fil
  exact Nat.le_trans (List.length_filter_le _ _) (List.length_take_le' _ _)

set_option maxHeartbeats 1600000 in
theorem splitMade_any (A A2 : Option Addr) (U : List Ty) (D : List Da) (cap cap2 : Nat) (mb n : Nat) (F : Ty → Int) (S : Ty → Prop) (w : World) (hr : RDas w w.heap.size A D) (hU : RTys w w.heap.size A2 U) (hin : ∀ t ∈ U, t ∈ tysN D.length) (hw : WorldOK D) (hm : MapTy w mb n F S) (hpos : ∀ t ∈ tysN 4, S t → 0 < F t ∧ F t ≤ 5000) (hUl : U.length ≤ 17) :
    Calls Tryz.prog 174 #[.slice A D.length cap, .slice A2 U.length cap2, .map (some mb)] w fun e w' => ∃ v u, e = .returned (.tuple #[v, u]) ∧ OTys w' w.heap.size v (fil (mkF D S) U U.length) (fil (mkF D S) U U.length).length ∧ OTys w' w.heap.size u (fil (fun t => ¬ mkF D S t) U U.length) (fil (fun t => ¬ mkF D S t) U U.length).length ∧ Below w.heap.size w w' := by
  obtain ⟨i0, hi, hz0, hz1, hz2⟩ := info_parts info34
  have Hr := Lib.hid hr
  have HU := Lib.hid hU
  have HI := Lib.hid hin
  have HW := Lib.hid hw
  have HM := Lib.hid hm
  have HP := Lib.hid hpos
  have hz1' := fil_zero (mkF D S) U
  have hz2' := fil_zero (fun t => ¬ mkF D S t) U
  have HZ1 := Lib.hid hz1'
  have HZ2 := Lib.hid hz2'
  clear hr hU hin hw hm hpos hz1' hz2'
  have HA0 : Hid (Apart (.slice none 0 0) (.slice none 0 0)) := fun g h => by simp [Value.ownBlock] at h
  go_enter Tryz.func174, Tryz.ntmps174
  go_wp2_with fail
  go_loopw [6, 7, 12] (fun v u i wr => ∃ k : Nat, k ≤ U.length ∧ i = .int .i64 k ∧ OTys wr w.heap.size v (fil (mkF D S) U k) (fil (mkF D S) U k).length ∧ OTys wr w.heap.size u (fil (fun t => ¬ mkF D S t) U k) (fil (fun t => ¬ mkF D S t) U k).length ∧ Apart v u ∧ Below w.heap.size w wr) (fun _ _ i _ => U.length - (intOf i).toNat)
  case atStart => exact ⟨0, by omega, rfl, by rw [HZ1.out]; exact OTys.nil _ _, by rw [HZ2.out]; exact OTys.nil _ _, HA0.out, Below.refl _ _⟩
  case round =>
    clear HZ1 HZ2 HA0
    obtain ⟨k, hk, rfl, ho1, ho2, hap, hb⟩ := hrel
    have hsz := hb.size
    by_cases hlt : k < U.length
    · obtain ⟨b, off, rfl, hbB, c0, c1⟩ := (HU.out.below hb (Nat.le_refl _)).2 k hlt
      have hkI : (k : Int) < (U.length : Int) := by omega
      have HO1 := Lib.hid ho1
      have HO2 := Lib.hid ho2
      have HAP := Lib.hid hap
      have HT := Lib.hid (HI.out U[k] (List.getElem_mem hlt))
      have HRr : Hid (∀ o : Obj, RDas (wr.alloc o) (wr.alloc o).heap.size A D) := fun o => Hr.out.keep (fun p hp => (keep_one o p (by omega)).trans (hb.cell hp)) (by simp; omega)
      have HMr : Hid (∀ o : Obj, MapTy (wr.alloc o) mb n F S) := fun o => (HM.out.at_ hb).at_ ((Below.refl _ _).alloc (Nat.le_refl _) o)
      clear ho1 ho2 hap
      by_cases hs : mkF D S U[k]
      · have HC := Lib.hid (dec_t hs)
        have HY := Lib.hid (fil_yes (P := mkF D S) hlt hs)
        have HN := Lib.hid (fil_no (P := fun t => ¬ mkF D S t) hlt (fun h => h hs))
        have hfl := fil_len (mkF D S) U k
        clear hs
        go_wp2_with fail
        refine (hasMade_any _ _ _ _ _ _ _ _ _ (HRr.out _) HT.out HW.out (HMr.out _) HP.out).mono ?_
        rw [HC.out]
        rintro e w1 ⟨rfl, hb1⟩
        have hb2 : Below w.heap.size w w1 := hb.trans ((below_one hb1).mono hsz)
        have HX1 := Lib.hid (HO1.out.at_ (below_one hb1))
        have HX2 := Lib.hid (HO2.out.at_ (below_one hb1))
        have d0 : w1.cell? ⟨wr.heap.size, 0, none⟩ = some (.int .i64 U[k].data) := (hb1.cell (p := ⟨wr.heap.size, 0, none⟩) (by simp)).trans (by simp [go_sem])
        have d1 : w1.cell? ⟨wr.heap.size, 1, none⟩ = some (.int .i64 U[k].index) := (hb1.cell (p := ⟨wr.heap.size, 1, none⟩) (by simp)).trans (by simp [go_sem])
        have hs1 := hb2.size
        clear hb1 HO1 HO2 HRr HMr hb hsz c0 c1
        obtain ⟨xs, ho, hx⟩ := HX1.out
        have HO := Lib.hid ho
        have HX := Lib.hid hx
        clear ho hx HX1
        go_wp2_with (at_builtin; refine wpList_append_own_at _ rfl _ _ 161 rfl w.heap.size 31 i0 (.agg #[.int .i64 0, .int .i64 0]) 2 16 Tryz.underlying161 hi hz0 hz1 hz2 rfl (by decide) _ _ _ rfl (HO.out.alloc _) ⟨w1.heap.size, 0, none⟩ 1 1 [.int .i64 U[k].data, .int .i64 U[k].index] rfl rfl ?c1 ?c2 ?c3 ?c4 ?c5 ?_)
        case c1 => exact cell_two_new _ _ _ _
        case c2 => intro u hu; simp at hu; rcases hu with rfl | rfl <;> rfl
        case c3 => unfold maxLen; omega
        case c4 => omega
        case c5 => simp; omega
        intro v' w2 hown' hgrow hnn hat
        have hb3 : Below w.heap.size w w2 := (hb2.alloc (by omega) _).grown hgrow (by simp; omega) (fun g' e => (HO.out.lt g' e).1)
        have HO3 : Hid (OTys w2 w.heap.size v' (fil (mkF D S) U (k + 1)) (fil (mkF D S) U (k + 1)).length) := by unfold Hid; rw [HY.out]; exact OTys.app HX.out HO.out.1 hown'
        have HO4 : Hid (OTys w2 w.heap.size u7 (fil (fun t => ¬ mkF D S t) U (k + 1)) (fil (fun t => ¬ mkF D S t) U (k + 1)).length) := by unfold Hid; rw [HN.out]; exact (HX2.out.alloc _).kept hgrow HAP.out
        have HA : Hid (Apart v' u7) := fun g e1 e2 => by
          rcases hat with h | h
          · exact HAP.out g (h ▸ e1) e2
          · rw [h] at e1
            have h3 := (HX2.out.lt g e2).2
            injection e1 with e1
            omega
        clear hown' hgrow hnn hat HO HX HX2 d0 d1 HAP
        go_wp2_with fail
        go_roundw
        case rel => exact ⟨k + 1, by omega, by go_num, HO3.out, HO4.out, HA.out, hb3⟩
        case measure => simp [intOf]; omega
      · have HC := Lib.hid (dec_f hs)
        have HY := Lib.hid (fil_yes (P := fun t => ¬ mkF D S t) hlt hs)
        have HN := Lib.hid (fil_no (P := mkF D S) hlt hs)
        have hfl := fil_len (fun t => ¬ mkF D S t) U k
        clear hs
        go_wp2_with fail
        refine (hasMade_any _ _ _ _ _ _ _ _ _ (HRr.out _) HT.out HW.out (HMr.out _) HP.out).mono ?_
        rw [HC.out]
        rintro e w1 ⟨rfl, hb1⟩
        have hb2 : Below w.heap.size w w1 := hb.trans ((below_one hb1).mono hsz)
        have HX1 := Lib.hid (HO1.out.at_ (below_one hb1))
        have HX2 := Lib.hid (HO2.out.at_ (below_one hb1))
        have d0 : w1.cell? ⟨wr.heap.size, 0, none⟩ = some (.int .i64 U[k].data) := (hb1.cell (p := ⟨wr.heap.size, 0, none⟩) (by simp)).trans (by simp [go_sem])
        have d1 : w1.cell? ⟨wr.heap.size, 1, none⟩ = some (.int .i64 U[k].index) := (hb1.cell (p := ⟨wr.heap.size, 1, none⟩) (by simp)).trans (by simp [go_sem])
        have hs1 := hb2.size
        clear hb1 HO1 HO2 HRr HMr hb hsz c0 c1
        obtain ⟨xs, ho, hx⟩ := HX2.out
        have HO := Lib.hid ho
        have HX := Lib.hid hx
        clear ho hx HX2
        go_wp2_with (at_builtin; refine wpList_append_own_at _ rfl _ _ 161 rfl w.heap.size 31 i0 (.agg #[.int .i64 0, .int .i64 0]) 2 16 Tryz.underlying161 hi hz0 hz1 hz2 rfl (by decide) _ _ _ rfl (HO.out.alloc _) ⟨w1.heap.size, 0, none⟩ 1 1 [.int .i64 U[k].data, .int .i64 U[k].index] rfl rfl ?d1 ?d2 ?d3 ?d4 ?d5 ?_)
        case d1 => exact cell_two_new _ _ _ _
        case d2 => intro u hu; simp at hu; rcases hu with rfl | rfl <;> rfl
        case d3 => unfold maxLen; omega
        case d4 => omega
        case d5 => simp; omega
        intro v' w2 hown' hgrow hnn hat
        have hb3 : Below w.heap.size w w2 := (hb2.alloc (by omega) _).grown hgrow (by simp; omega) (fun g' e => (HO.out.lt g' e).1)
        have HO3 : Hid (OTys w2 w.heap.size v' (fil (fun t => ¬ mkF D S t) U (k + 1)) (fil (fun t => ¬ mkF D S t) U (k + 1)).length) := by unfold Hid; rw [HY.out]; exact OTys.app HX.out HO.out.1 hown'
        have HO4 : Hid (OTys w2 w.heap.size u6 (fil (mkF D S) U (k + 1)) (fil (mkF D S) U (k + 1)).length) := by unfold Hid; rw [HN.out]; exact (HX1.out.alloc _).kept hgrow HAP.out.symm
        have HA : Hid (Apart u6 v') := fun g e1 e2 => by
          rcases hat with h | h
          · exact HAP.out g e1 (h ▸ e2)
          · rw [h] at e2
            have h3 := (HX1.out.lt g e1).2
            injection e2 with e2
            omega
        clear hown' hgrow hnn hat HO HX HX1 d0 d1 HAP
        go_wp2_with fail
        go_roundw
        case rel => exact ⟨k + 1, by omega, by go_num, HO4.out, HO3.out, HA.out, hb3⟩
        case measure => simp [intOf]; omega
    · have he : k = U.length := by omega
      have HO1 : Hid (OTys wr w.heap.size u6 (fil (mkF D S) U U.length) (fil (mkF D S) U U.length).length) := by unfold Hid; rw [← he]; exact ho1
      have HO2 : Hid (OTys wr w.heap.size u7 (fil (fun t => ¬ mkF D S t) U U.length) (fil (fun t => ¬ mkF D S t) U U.length).length) := by unfold Hid; rw [← he]; exact ho2
      clear he ho1 ho2
      go_wp2_with fail
      go_ret2
      exact ⟨_, _, rfl, HO1.out, HO2.out, hb⟩
end Go.Proofs.YthecfkdilbfimaaGreat
/-
  The least depths of all types that have values, in a map: the program's function. No statement is proved here.
-/
namespace Go.Proofs.YthecfkdilbfimaaGreat
open Go.RowKit Go.Maps
set_option maxRecDepth 100000
set_option linter.unusedVariables false

/-- The types that are made within k rounds, and those that are not, yet. -/
def Mk (l : List Da) (k : Nat) (t : Ty) : Prop := t ∈ tysN l.length ∧ Dk (mkF l) k t
noncomputable def opn (l : List Da) (k : Nat) : List Ty := (tysN l.length).filter (fun t => dec (¬ Dk (mkF l) k t))
/-- The types that have values. -/
def Inh (l : List Da) (t : Ty) : Prop := t ∈ tysN l.length ∧ ∃ k, Dk (mkF l) k t
theorem mem_opn {l : List Da} {k : Nat} {t : Ty} : t ∈ opn l k ↔ t ∈ tysN l.length ∧ ¬ Dk (mkF l) k t := by
  unfold opn
  rw [List.mem_filter]
  constructor
  · rintro ⟨h1, h2⟩
    refine ⟨h1, fun h => ?_⟩
    rw [dec_f (fun hn => hn h)] at h2; cases h2
  · rintro ⟨h1, h2⟩
    exact ⟨h1, dec_t h2⟩
theorem opn_zero (l : List Da) : opn l 0 = tysN l.length := by
  unfold opn
  exact List.filter_eq_self.2 (fun t _ => dec_t (fun h => h.elim))
theorem mkF_Mk {l : List Da} (hw : WorldOK l) {k : Nat} {t : Ty} (ht : t ∈ tysN l.length) : mkF l (Mk l k) t ↔ Dk (mkF l) (k + 1) t :=
  ⟨mkF_tys hw (Mk l k) (Dk (mkF l) k) (fun _ _ h => h.2) t ht, mkF_tys hw (Dk (mkF l) k) (Mk l k) (fun t h h' => ⟨h, h'⟩) t ht⟩
theorem fil_all (P : Ty → Prop) (U : List Ty) : fil P U U.length = U.filter (fun t => dec (P t)) := by unfold fil; rw [List.take_of_length_le (Nat.le_refl _)]
theorem opn_next {l : List Da} (hw : WorldOK l) (k : Nat) : fil (fun t => ¬ mkF l (Mk l k) t) (opn l k) (opn l k).length = opn l (k + 1) := by
  rw [fil_all]
  unfold opn
  rw [List.filter_filter]
  refine List.filter_congr (fun t ht => ?_)
  rw [dec_congr (not_congr (mkF_Mk hw ht))]
  by_cases h : Dk (mkF l) (k + 1) t
  · rw [dec_f (fun hn => hn h)]; rfl
  · rw [dec_t h, dec_t (fun hn => h (Dk_up _ _ hn))]; rfl
/-- What is made in round k + 1. -/
noncomputable def new (l : List Da) (k : Nat) : List Ty := fil (mkF l (Mk l k)) (opn l k) (opn l k).length
theorem mem_new {l : List Da} (hw : WorldOK l) {k : Nat} {t : Ty} : t ∈ new l k ↔ t ∈ tysN l.length ∧ Dk (mkF l) (k + 1) t ∧ ¬ Dk (mkF l) k t := by
  unfold new
  rw [fil_all, List.mem_filter, mem_opn]
  constructor
  · rintro ⟨⟨h1, h2⟩, h3⟩
    refine ⟨h1, Classical.byContradiction fun h => ?_, h2⟩
    rw [dec_f (fun hn => h ((mkF_Mk hw h1).1 hn))] at h3; cases h3
  · rintro ⟨h1, h2, h3⟩
    exact ⟨⟨h1, h3⟩, dec_t ((mkF_Mk hw h1).2 h2)⟩
theorem len_parts (P : Ty → Prop) (U : List Ty) : (U.filter (fun t => dec (P t))).length + (U.filter (fun t => dec (¬ P t))).length = U.length := by
  induction U with
  | nil => rfl
  | cons t U ih =>
    by_cases h : P t
    · rw [List.filter_cons_of_pos (by rw [dec_t h]), List.filter_cons_of_neg (by rw [dec_f (fun hn => hn h)]; simp)]
      simp only [List.length_cons]; omega
    · rw [List.filter_cons_of_neg (by rw [dec_f h]; simp), List.filter_cons_of_pos (by rw [dec_t h])]
      simp only [List.length_cons]; omega
theorem new_len {l : List Da} (hw : WorldOK l) (k : Nat) : (new l k).length + (opn l (k + 1)).length = (opn l k).length := by
  rw [← opn_next hw, new, fil_all, fil_all]
  exact len_parts _ _
theorem new_dep {l : List Da} (hw : WorldOK l) {k : Nat} {t : Ty} (h : t ∈ new l k) : (k : Int) + 1 = ldep l t := by
  obtain ⟨_, h1, h2⟩ := (mem_new hw).1 h
  refine ldep_eq (.inr ⟨by omega, by rw [show ((k : Int) + 1).toNat = k + 1 by omega]; exact h1, fun j hj hd => h2 (Dk_up_le (by omega) t hd)⟩)
theorem ldep_le {l : List Da} {t : Ty} {k : Nat} (h : Dk (mkF l) k t) : ldep l t ≤ k := by
  rcases ldep_is l t with ⟨h1, _⟩ | ⟨h1, _, h3⟩
  · omega
  · have : ¬ k < (ldep l t).toNat := fun hk => h3 k hk h
    omega
theorem mk_pos {l : List Da} {k : Nat} (hk : k ≤ 17) : ∀ t ∈ tysN 4, Mk l k t → 0 < ldep l t ∧ ldep l t ≤ 5000 := fun t _ h => ⟨ldep_pos h.2, by have := ldep_le h.2; omega⟩
/-- Once a round makes nothing, all have been made. -/
theorem mk_all {l : List Da} (hw : WorldOK l) {k : Nat} (h : new l k = []) (t : Ty) : Mk l k t ↔ Inh l t := by
  constructor
  · exact fun h => ⟨h.1, k, h.2⟩
  · rintro ⟨h1, j, h2⟩
    refine ⟨h1, ?_⟩
    have hr : ∀ t ∈ tysN l.length, Dk (mkF l) (k + 1) t → Dk (mkF l) k t := fun t ht h3 => Classical.byContradiction fun h4 => by
      have : t ∈ new l k := (mem_new hw).2 ⟨ht, h3, h4⟩
      rw [h] at this; simp at this
    by_cases hj : k ≤ j
    · exact Dk_rest (mkF_tys hw) hr j hj t h1 h2
    · exact Dk_up_le (by omega) t h2
/-- After j of a round's types. -/
def Mk' (l : List Da) (k j : Nat) (t : Ty) : Prop := Mk l k t ∨ ∃ i, ∃ h : i < (new l k).length, i < j ∧ (new l k)[i] = t
theorem mk'_zero (l : List Da) (k : Nat) (t : Ty) : Mk l k t ↔ Mk' l k 0 t := ⟨.inl, fun h => h.resolve_right (fun ⟨_, _, h, _⟩ => absurd h (by omega))⟩
theorem mk'_step {l : List Da} {k j : Nat} (hj : j < (new l k).length) (t : Ty) : (t = (new l k)[j] ∨ Mk' l k j t) ↔ Mk' l k (j + 1) t := by
  constructor
  · rintro (rfl | h | ⟨i, h, h1, h2⟩)
    · exact .inr ⟨j, hj, by omega, rfl⟩
    · exact .inl h
    · exact .inr ⟨i, h, by omega, h2⟩
  · rintro (h | ⟨i, h, h1, h2⟩)
    · exact .inr (.inl h)
    · by_cases e : i = j
      · subst e; exact .inl h2.symm
      · exact .inr (.inr ⟨i, h, by omega, h2⟩)
theorem mk'_all {l : List Da} (hw : WorldOK l) {k : Nat} (t : Ty) : Mk' l k (new l k).length t ↔ Mk l (k + 1) t := by
  constructor
  · rintro (h | ⟨i, h, _, rfl⟩)
    · exact ⟨h.1, Dk_up _ _ h.2⟩
    · obtain ⟨h1, h2, _⟩ := (mem_new hw).1 (List.getElem_mem h)
      exact ⟨h1, h2⟩
  · rintro ⟨h1, h2⟩
    by_cases h3 : Dk (mkF l) k t
    · exact .inl ⟨h1, h3⟩
    · obtain ⟨i, hi, e⟩ := List.getElem_of_mem ((mem_new hw).2 ⟨h1, h2, h3⟩)
      exact .inr ⟨i, hi, hi, e⟩

/-- Every block of w but one reads as it did. -/
def KeepBut (w w' : World) (b : Nat) : Prop := w.heap.size ≤ w'.heap.size ∧ ∀ k, k < w.heap.size → k ≠ b → w'.heap[k]? = w.heap[k]?
theorem KeepBut.refl (w : World) (b : Nat) : KeepBut w w b := ⟨Nat.le_refl _, fun _ _ _ => rfl⟩
theorem KeepBut.alloc {w w' : World} {b : Nat} (h : KeepBut w w' b) (o : Obj) : KeepBut w (w'.alloc o) b := ⟨by simp; have := h.1; omega, fun k hk hne => (Below.heap_alloc _ _ _ (Nat.lt_of_lt_of_le hk h.1)).trans (h.2 k hk hne)⟩
theorem KeepBut.grown {w w' w'' : World} {b : Nat} (h : KeepBut w w' b) (hg : w'.grownBy w'' (some b)) : KeepBut w w'' b := ⟨Nat.le_trans h.1 hg.size, fun k hk hne => (hg.block k (Nat.lt_of_lt_of_le hk h.1) (fun e => hne (by injection e))).trans (h.2 k hk hne)⟩
theorem OTys.but {w w' : World} {lo b : Nat} {u : Value} {l : List Ty} {k : Nat} (h : OTys w lo u l k) (hk : KeepBut w w' b) (hb : b < lo) : OTys w' lo u l k := by
  obtain ⟨xs, ho, hx⟩ := h
  refine ⟨xs, ⟨ho.1, ?_⟩, hx⟩
  rcases ho.2 with h0 | ⟨g, cap, cur, a1, a2, a3, a4⟩
  · exact .inl h0
  · exact .inr ⟨g, cap, cur, a1, a2, (hk.2 g (heap_lt a3) (by omega)).trans a3, a4⟩
def lenV : Value → Nat
  | .slice _ n _ => n
  | _ => 0
theorem new_le (l : List Da) (hl : l.length ≤ 4) (k : Nat) : (new l k).length ≤ 17 := by
  have h1 := fil_len (mkF l (Mk l k)) (opn l k) (opn l k).length
  have h2 : (opn l k).length ≤ (tysN l.length).length := List.length_filter_le _ _
  rw [tysN_len] at h2
  unfold new
  omega
theorem opn_le (l : List Da) (hl : l.length ≤ 4) (k : Nat) : (opn l k).length ≤ 17 := by
  have h2 : (opn l k).length ≤ (tysN l.length).length := List.length_filter_le _ _
  rw [tysN_len] at h2
  omega
theorem key_of' {t : Ty} (ht : t ∈ tysN 4) : keyOf Tryz.prog 31 (.agg #[.int .i64 t.data, .int .i64 t.index]) = some (keyL t) := key_of ht
theorem int_wf {k : Nat} (h : k ≤ 100) : (Lit.int .i64 ((k : Int) + 1)).wf = true := WalkArith.wf_i64 (by omega)
end Go.Proofs.YthecfkdilbfimaaGreat
/-
  The least depths of all types that have values, in a map: the program's function, the walk. No statement is proved here.
-/
namespace Go.Proofs.YthecfkdilbfimaaGreat
open Go.RowKit Go.Maps
set_option maxRecDepth 100000
set_option linter.unusedVariables false

theorem ret_map {b c : Nat} (h : b = c) : Ending.returned (.map (some b)) = .returned (.map (some c)) := by rw [h]
theorem nil_of_len {α : Type} {l : List α} (h : l.length = 0) : l = [] := List.eq_nil_of_length_eq_zero h

set_option maxHeartbeats 3000000 in
theorem leastDepths_any (A : Option Addr) (l : List Da) (cap : Nat) (w : World) (hr : RDas w w.heap.size A l) (hw : WorldOK l) :
    Calls Tryz.prog 123 #[.slice A l.length cap] w fun e w' => e = .returned (.map (some w.heap.size)) ∧ MapTy w' w.heap.size 400 (ldep l) (Inh l) ∧ Below w.heap.size w w' := by
  have Hr := Lib.hid hr
  have HW := Lib.hid hw
  have hl4 := hw.1
  have HS0 := Lib.hid (opn_zero l)
  have hO0 := tysN_len l.length
  have hM0 : Hid (MapTy (w.alloc (.map #[] 0)) w.heap.size 0 (ldep l) (Mk l 0)) := (MapTy.made w (ldep l)).keep rfl (Nat.le_refl _) (fun t _ => ⟨False.elim, fun h => h.2.elim⟩)
  have HB0 : Hid (∀ o : Obj, Below w.heap.size w (w.alloc o)) := fun o => (Below.refl _ _).alloc (Nat.le_refl _) _
  have hmm := @run_makeMap Tryz.prog
  clear hr hw
  go_enter Tryz.func123, Tryz.ntmps123
  go_wp2_with fail
  refine (typesOf_any _ _ _ _ hl4).mono ?_
  rintro e w1 ⟨v, rfl, ho, hb1⟩
  have hM1 := Lib.hid (hM0.out.at_ hb1)
  have HO1 : Hid (OTys w1 (w.heap.size + 1) v (opn l 0) (opn l 0).length) := by unfold Hid; rw [HS0.out]; simpa using ho
  have HL0 : Hid ((opn l 0).length + 0 ≤ l.length * 4 + 1) := by unfold Hid; rw [HS0.out]; omega
  have hb2 : Below w.heap.size w w1 := (HB0.out _).trans (hb1.mono (by simp))
  clear ho hb1 hM0 hmm hO0
  go_wp2_with fail
  go_loopw [4, 5] (fun v d wr => ∃ k : Nat, d = .int .i64 ((k : Int) + 1) ∧ lenV v = (opn l k).length ∧ OTys wr (w.heap.size + 1) v (opn l k) (opn l k).length ∧ (opn l k).length + k ≤ l.length * 4 + 1 ∧ MapTy wr w.heap.size (17 * k) (ldep l) (Mk l k) ∧ Below w.heap.size w wr) (fun v _ _ => lenV v)
  case atStart =>
    obtain ⟨A1, cap1, hv, _⟩ := HO1.out.form (by have := opn_le l hl4 0; unfold maxLen; omega)
    exact ⟨0, rfl, by rw [hv]; rfl, HO1.out, HL0.out, hM1.out, hb2⟩
  case round =>
    clear HO1 HL0 hM1 hb2 HB0 HS0
    obtain ⟨k, rfl, hlen, ho, hle, hm, hb⟩ := hrel
    have hol := opn_le l hl4 k
    obtain ⟨A1, cap1, rfl, hr1⟩ := ho.form (by unfold maxLen; omega)
    have HR1 := Lib.hid hr1
    have HO := Lib.hid ho
    have HM := Lib.hid hm
    have HLE := Lib.hid hle
    have hk17 : k ≤ 17 := by omega
    have HRr : Hid (RDas wr wr.heap.size A l) := (Hr.out.below hb (Nat.le_refl _)).keep (fun _ _ => rfl) hb.size
    have hlt0 := hm.lt
    have hnl := new_le l hl4 k
    have HNL := Lib.hid (new_len HW.out k)
    have hlen2 := hlen
    clear hr1 ho hm hle hlen
    go_wp2_with fail
    refine (splitMade_any _ _ _ _ _ _ _ _ _ _ _ HRr.out HR1.out (fun t ht => (mem_opn.1 ht).1) HW.out HM.out (mk_pos hk17) hol).mono ?_
    rw [opn_next HW.out k]
    rintro e w2 ⟨v1, v2, rfl, ho1, ho2, hb2'⟩
    have hb2 : Below w.heap.size w w2 := below_after hb hb2' hb.size
    have ho1' : OTys w2 wr.heap.size v1 (new l k) (new l k).length := ho1
    have HM2 := Lib.hid (HM.out.at_ hb2')
    have HO2 := Lib.hid ho2
    have HO1 := Lib.hid ho1'
    have hs2 := hb2'.size
    clear ho1 ho1' ho2 hb2' HM HO HRr HR1
    obtain ⟨A3, cap3, rfl, hr3⟩ := HO1.out.form (by unfold maxLen; omega)
    obtain ⟨A4, cap4, rfl, hr4⟩ := HO2.out.form (by have := opn_le l hl4 (k + 1); unfold maxLen; omega)
    clear hr3 hr4
    by_cases hz : (new l k).length = 0
    · have HF : Hid (MapTy w2 w.heap.size 400 (ldep l) (Inh l)) := HM2.out.keep rfl (by omega) (fun t _ => mk_all HW.out (nil_of_len hz) t)
      have q : (((new l k).length : Int) == 0) = true := by rw [hz]; rfl
      clear hz
      go_wp2_with fail
      go_ret
      exact ⟨rfl, HF.out, hb2⟩
    · have q : (((new l k).length : Int) == 0) = false := beq_eq_false_iff_ne.2 (by omega)
      go_wp2_with fail
      obtain ⟨wo, rfl⟩ : ∃ wo : World, wo = wr := ⟨_, rfl⟩
      go_loopw [28] (fun i wi => ∃ j : Nat, j ≤ (new l k).length ∧ i = .int .i64 j ∧ MapTy wi w.heap.size (17 * k + j) (ldep l) (Mk' l k j) ∧ KeepBut w2 wi w.heap.size ∧ Below w.heap.size w wi) (fun i _ => (new l k).length - (intOf i).toNat)
      case atStart => exact ⟨0, by omega, rfl, HM2.out.keep rfl (Nat.le_refl _) (fun t _ => mk'_zero l k t), KeepBut.refl _ _, hb2⟩
      case round =>
        clear HM2 hb2
        obtain ⟨j, hj, rfl, hm, hkb, hbi⟩ := hrel
        by_cases hjt : j < (new l k).length
        · have hjI : (j : Int) < ((new l k).length : Int) := by omega
          obtain ⟨A5, cap5, e5, hr5⟩ := (HO1.out.but hkb hlt0).form (by unfold maxLen; omega)
          injection e5 with e5a e5b e5c
          subst e5a e5c
          obtain ⟨b, off, e6, hbB, c0, c1⟩ := hr5.2 j hjt
          subst e6
          have HDP := Lib.hid (new_dep HW.out (List.getElem_mem hjt))
          have HT : Hid ((new l k)[j] ∈ tysN 4) := tys_mono hl4 ((mem_new HW.out).1 (List.getElem_mem hjt)).1
          have HST := Lib.hid (mk'_step (l := l) (k := k) hjt)
          obtain ⟨D, hod, hmD, hat⟩ := hm
          have HOD := Lib.hid hod
          have HAT := Lib.hid hat
          have HMD := Lib.hid hmD
          have hKey := Lib.hid (key_of' HT.out)
          have hNm : 17 * k + j < maxLen := by unfold maxLen; omega
          have hsi := hbi.size
          clear hod hat hmD hr5
          go_wp2_with (at_mapUpdate; refine wpList_mapUpdate_own _ rfl _ _ _ 108 rfl 31 3 keyT Tryz.underlying108 (plainElem Tryz.prog 3) w.heap.size (17 * k + j) D rfl (HOD.out.alloc _) hNm _ _ (keyL (new l k)[j]) rfl rfl hKey.out (.lit (.int .i64 ((k : Int) + 1))) [] (plainElem_int Tryz.underlying3 (int_wf (by omega))) ?_; intro w3 ho3 hg3)
          have hb3 : Below w.heap.size w w3 := (hbi.alloc (by omega) _).grown hg3 (by simp; omega) (fun g e => by injection e with e; omega)
          have hkb3 : KeepBut w2 w3 w.heap.size := (hkb.alloc _).grown hg3
          have HM3 : Hid (MapTy w3 w.heap.size (17 * k + (j + 1)) (ldep l) (Mk' l k (j + 1))) := by
            rw [HDP.out] at ho3
            exact (MapTy.put HT.out ho3 HMD.out HAT.out).keep rfl (by omega) (fun t _ => HST.out t)
          clear ho3 hg3 hkb c0 c1 HDP HT HST HOD HAT HMD hKey
          go_wp2_with fail
          go_roundw
          case rel => exact ⟨j + 1, by omega, by go_num, HM3.out, hkb3, hb3⟩
          case measure => simp [intOf]; omega
        · have hje : j = (new l k).length := by omega
          have hjI : ((new l k).length : Int) ≤ (j : Int) := by omega
          have HM3 : Hid (MapTy wr w.heap.size (17 * (k + 1)) (ldep l) (Mk l (k + 1))) := hm.keep rfl (by omega) (fun t _ => by rw [hje]; exact mk'_all HW.out t)
          have HO3 : Hid (OTys wr (w.heap.size + 1) (.slice A4 (opn l (k + 1)).length cap4) (opn l (k + 1)) (opn l (k + 1)).length) := (HO2.out.but hkb hlt0).lower (by omega)
          have HL3 : Hid ((opn l (k + 1)).length + (k + 1) ≤ l.length * 4 + 1) := by have := HNL.out; have := HLE.out; unfold Hid; omega
          have hdec : (opn l (k + 1)).length < (opn l k).length := by have := HNL.out; omega
          clear hm hje
          go_wp2_with fail
          go_roundw
          case rel => exact ⟨k + 1, by go_num, rfl, HO3.out, HL3.out, HM3.out, hbi⟩
          case measure => simp [lenV]; omega
end Go.Proofs.YthecfkdilbfimaaGreat
