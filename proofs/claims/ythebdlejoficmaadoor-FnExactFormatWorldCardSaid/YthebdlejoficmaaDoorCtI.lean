/-
  The texts of constructors: the program's functions. No statement is proved here.
-/
import Derived.Test.YthebdlejoficmaaDoorJoin
namespace Go.Proofs.YthebdlejoficmaaDoor
open Go.RowKit Go.Deep
set_option maxRecDepth 100000
set_option linter.unusedVariables false

/-- A name with texts in brackets behind it. -/
def twT (nm : ByteArray) (ts : List ByteArray) : ByteArray := if ts.length = 0 then nm else ((nm ++ ⟨#[40]⟩) ++ joinB ts ⟨#[44]⟩) ++ ⟨#[41]⟩
theorem twT_none {nm : ByteArray} {ts : List ByteArray} (h : ts.length = 0) : twT nm ts = nm := if_pos h
theorem twT_some {nm : ByteArray} {ts : List ByteArray} (h : ¬ ts.length = 0) : twT nm ts = ((nm ++ ⟨#[40]⟩) ++ joinB ts ⟨#[44]⟩) ++ ⟨#[41]⟩ := if_neg h
theorem twT_ct {l : List Da} {c : Ct} : twT c.name (c.args.map (tyT l)) = ctT2 l c := by
  by_cases h : c.args.length = 0
  · rw [twT_none (by rw [List.length_map]; exact h), ctT2_none h]
  · rw [twT_some (by rw [List.length_map]; exact h), ctT2_join (by omega)]

theorem twa_any (nm : ByteArray) (ts : List ByteArray) (g lo cap : Nat) (xs : List Value) (w : World) (hown : w.ownsRow lo 9 1 (.slice (some ⟨g, 0, none⟩) ts.length cap) ts.length xs) (hrow : StRow ts xs ts.length) (hcap : ts.length ≤ cap) (hn : ts.length ≤ 3) (hm : ∀ t ∈ ts, t.size ≤ 10000) (hnm : nm.size ≤ 100) :
    Calls Tryd.prog 49 #[.string nm, .slice (some ⟨g, 0, none⟩) ts.length cap] w fun e w' => e = .returned (.string (twT nm ts)) ∧ Below w.heap.size w w' := by
  by_cases h : ts.length = 0
  · have q := ieq_t (show (ts.length : Int) = 0 by omega)
    have HT := Lib.hid (twT_none (nm := nm) h)
    clear h hown hrow hm
    go_enter Tryd.func49, Tryd.ntmps49
    go_wp2_with fail
    go_ret
    exact ⟨ret_str HT.out.symm, Below.refl _ _⟩
  · have q := ieq_f (show ¬ (ts.length : Int) = 0 by omega)
    have HT := Lib.hid (twT_some (nm := nm) h)
    have HO := Lib.hid hown
    have HR := Lib.hid hrow
    have HM : Hid (∀ t ∈ ts, t.size ≤ 100000) := fun t ht => by have := hm t ht; omega
    have hz := joinB_size ⟨#[44]⟩ 10000 ts hm
    have hz2 : ts.length * (10000 + (ByteArray.mk #[44]).size) ≤ 3 * (10000 + 1) := Nat.mul_le_mul hn (Nat.le_refl _)
    have hz3 : (joinB ts ⟨#[44]⟩).size ≤ 30003 := by omega
    generalize hu : joinB ts ⟨#[44]⟩ = u at hz3 HT
    have HU := Lib.hid hu
    clear h hown hrow hm hz hz2 hu
    go_enter Tryd.func49, Tryd.ntmps49
    go_wp2_with fail
    refine (join_row ts ⟨#[44]⟩ g lo cap xs _ HO.out HR.out hcap (by omega) HM.out (by decide)).mono ?_
    rw [HU.out]
    rintro e w1 ⟨rfl, hb⟩
    go_wp2_with fail
    go_ret
    exact ⟨ret_str HT.out.symm, hb⟩

theorem info9s : (Tryd.prog.info? 9).map (fun i => (i.zero, i.size, i.bytes)) = some (some (.string ByteArray.empty), 1, 16) := by kernel_rfl

set_option maxHeartbeats 1600000 in
theorem ctorText_impl (A D : Option Addr) (l : List Da) (c : Ct) (cap ep : Nat) (w : World) (hr : RDas w w.heap.size A l) (ha : RTys w w.heap.size D c.args) (hs : Short l) (hc : CtIn l.length c) :
    Calls Tryd.prog 28 #[.slice A l.length cap, .agg #[.string c.name, .slice D c.args.length ep, .int .i64 c.index]] w fun e w' => e = .returned (.string (ctT l c)) ∧ Below w.heap.size w w' := by
  obtain ⟨i0, hi, hz0, hz1, hz2⟩ := info_parts info9s
  have Hr := Lib.hid hr
  have HA := Lib.hid ha
  have HS := Lib.hid hs
  have HC := Lib.hid hc
  have h3 := hc.2.1
  have hnm := hc.1
  have hi0 := hc.2.2.1
  have hi3 := hc.2.2.2.1
  have hT2 := ctT2_size hs hc
  have HTW := Lib.hid (twT_ct (l := l) (c := c))
  have HTM : Hid (∀ t ∈ c.args.map (tyT l), t.size ≤ 10000) := fun t ht => by
    obtain ⟨a, ha, rfl⟩ := List.mem_map.1 ht
    have := tyT_size HS.out (HC.out.2.2.2.2 a ha)
    omega
  have HG : Hid (∀ k (h : k < c.args.length) (h' : k < (c.args.map (tyT l)).length), (c.args.map (tyT l))[k] = tyT l c.args[k]) := fun k h h' => List.getElem_map _
  have HL : Hid ((c.args.map (tyT l)).length = c.args.length) := List.length_map _
  generalize hts : c.args.map (tyT l) = ts at HTW HTM HG HL
  clear hr ha hs hc hts
  generalize hw0 : w.alloc (.cells #[.string c.name, .slice D c.args.length ep, .int .i64 c.index] 53) = w0
  have x1 : w0.cell? ⟨w.heap.size, 1, none⟩ = some (.slice D c.args.length ep) := by rw [← hw0]; simp [go_sem]
  have HX : Hid (Box3 w0 w.heap.size c.name (.slice D c.args.length ep) c.index) := by rw [← hw0]; exact heap_alloc_new w _
  have hb0 : Below w.heap.size w w0 := by rw [← hw0]; exact (Below.refl _ _).alloc (Nat.le_refl _) _
  have HW := Lib.hid hw0
  clear hw0
  go_enter Tryd.func28, Tryd.ntmps28
  go_wp2_with (at_make; rw [HW.out]; refine wpList_make_full _ rfl _ _ 50 rfl w0.heap.size 9 i0 _ 1 Tryd.underlying50 hi hz0 hz1 _ _ _ _ c.args.length rfl rfl rfl rfl (by rw [hz2]; omega) (by unfold maxLen; omega) (Nat.le_refl _) ?_; intro w1 hown hgr; have hbg := below_of_grown hgr (Nat.le_refl _); have x1' := (hbg.cell (p := ⟨w.heap.size, 1, none⟩) (Go.block_lt_of_cell x1)).trans x1)
  go_loopw [16] (fun i wr => ∃ k : Nat, k ≤ c.args.length ∧ i = .int .i64 k ∧ ∃ xs, wr.ownsRow w0.heap.size 9 1 (.slice (some ⟨w0.heap.size, 0, none⟩) c.args.length c.args.length) c.args.length xs ∧ StRow ts xs k ∧ Below w0.heap.size w0 wr) (fun i _ => c.args.length - (intOf i).toNat)
  case atStart => exact ⟨0, by omega, rfl, _, hown, StRow.zero _ _, hbg⟩
  case round =>
    obtain ⟨k, hk, rfl, xs, hown, hrow, hb⟩ := hrel
    clear hgr hi hz0 hz1 hz2 x1' x1 hbg
    have hbx := HX.out.at_ hb
    have b0 := hbx.c0
    have b1 := hbx.c1
    have b2 := hbx.c2
    have hbw : Below w.heap.size w wr := below_after hb0 hb hb0.size
    have HO := Lib.hid hown
    have HRW := Lib.hid hrow
    clear hown hrow
    by_cases hlt : k < c.args.length
    · obtain ⟨g, o, rfl, hgB, y0, y1⟩ := (HA.out.below hbw (Nat.le_refl _)).2 k hlt
      have hgw : g < wr.heap.size := by have := hbw.size; omega
      have HIN := Lib.hid (HC.out.2.2.2.2 _ (List.getElem_mem hlt))
      have hkl : k < ts.length := by rw [HL.out]; exact hlt
      have HGK := Lib.hid (HG.out k hlt hkl)
      have HRr : Hid (∀ ob : Obj, RDas (wr.alloc ob) (wr.alloc ob).heap.size A l) := fun ob => Hr.out.keep (fun p hp => (World.cell?_alloc_lt _ _ _ (Nat.lt_of_lt_of_le hp hbw.size)).trans (hbw.cell hp)) (by have := hbw.size; simp; omega)
      have hwl : w0.heap.size < wr.heap.size := own_lt HO.out
      have hxl := HO.out.1
      go_wp2_with (go_at_call 23; refine (typeT_impl _ l _ c.args[k] (ts[k]) _ (HRr.out _) HS.out HIN.out HGK.out.symm).mono ?_; rintro e w2 ⟨rfl, hb2⟩; have hown2 := own_below (HO.out.alloc _) hb2; obtain ⟨v0, f0⟩ := own_cell hown2 k (by omega); have g0 := hown2.frozenAt k)
      have s1 := (hown2.stored k (.string ts[k])).1
      have hrow2 := HRW.out.step hkl (by rw [HL.out]; omega)
      have hb3 : Below w0.heap.size w0 w2 := hb.trans (((Below.refl _ _).alloc (Nat.le_refl _) _ |>.trans (hb2.mono (by simp))).mono hb.size)
      go_roundw
      case rel => exact ⟨k + 1, by omega, by go_num, _, s1, hrow2, hb3.setCell (Nat.le_refl _) _⟩
      case measure => simp [intOf]; omega
    · have he : k = c.args.length := by omega
      have HO' : Hid (wr.ownsRow w0.heap.size 9 1 (.slice (some ⟨w0.heap.size, 0, none⟩) ts.length ts.length) ts.length xs) := by unfold Hid; rw [HL.out]; exact HO.out
      have HRW' : Hid (StRow ts xs ts.length) := by unfold Hid; rw [HL.out, ← he]; exact HRW.out
      have hl3 : ts.length ≤ 3 := by rw [HL.out]; exact h3
      have hcl : Hid (c.args.length = ts.length) := HL.out.symm
      by_cases hx : 0 < c.index
      · have HT : Hid (ctT l c = (ctT2 l c ++ ⟨#[58]⟩) ++ dig c.index) := if_pos hx
        have HIX : Hid (ixT c.index = dig c.index) := by unfold Hid ixT; rw [if_neg (by omega), if_neg (by omega)]
        have hds := dig_size c.index
        generalize hdd : dig c.index = dd at hds HT HIX
        generalize ctT2 l c = t2 at hT2 HT HTW
        clear hdd he
        go_wp2_with (first | (go_at_call 49; rw [hcl.out]; refine (twa_any _ ts _ _ _ xs _ HO'.out HRW'.out (Nat.le_refl _) hl3 HTM.out hnm).mono ?_; rw [HTW.out]; rintro e w2 ⟨rfl, hb2⟩; have hb3 := below_after hb hb2 hb.size; have hbx2 := HX.out.at_ hb3; have e2 := hbx2.c2) | (go_at_call 41; refine (ixI_any _ _ (by omega) (by omega)).mono ?_; rw [HIX.out]; rintro e w3 ⟨rfl, rfl⟩))
        go_ret
        exact ⟨ret_str (by rw [HT.out, ByteArray.append_assoc]), below_after hb0 hb3 hb0.size⟩
      · have HT : Hid (ctT l c = ctT2 l c) := if_neg hx
        have hxI : c.index ≤ 0 := by omega
        generalize ctT2 l c = t2 at hT2 HT HTW
        clear he hx
        go_wp2_with (go_at_call 49; rw [hcl.out]; refine (twa_any _ ts _ _ _ xs _ HO'.out HRW'.out (Nat.le_refl _) hl3 HTM.out hnm).mono ?_; rw [HTW.out]; rintro e w2 ⟨rfl, hb2⟩; have hb3 := below_after hb hb2 hb.size; have hbx2 := HX.out.at_ hb3; have e2 := hbx2.c2)
        go_ret
        exact ⟨ret_str HT.out.symm, below_after hb0 hb3 hb0.size⟩
end Go.Proofs.YthebdlejoficmaaDoor
