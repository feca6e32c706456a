/-
  The law FnNameValid walked. No statement is proved here.
-/
import Derived.Test.YthebdlejoficmabDoorG06
import Derived.Test.YthebdlejoficmabDoorG05
namespace Go.Proofs.YthebdlejoficmabDoor
open Go.RowKit Go.Deep
set_option maxRecDepth 100000
set_option linter.unusedVariables false

def names8 : List ByteArray := [⟨#[78, 105, 108]⟩, ⟨#[67]⟩, ⟨#[67, 111, 110, 115]⟩, ⟨#[]⟩, ⟨#[110, 105, 108]⟩, ⟨#[84, 111, 111, 108, 111, 110, 103]⟩, ⟨#[78, 49]⟩, ⟨#[78, 73]⟩]
theorem names8_size : ∀ s ∈ names8, s.size ≤ 7 := by decide
/-- A name was drawn. -/
def GotS (w : World) (e : Ending) (w' : World) : Prop := ∃ s : ByteArray, e = .returned (.string s) ∧ s.size ≤ 7 ∧ Below w.heap.size w w'
set_option maxHeartbeats 800000 in
theorem drawName_any (n cap : Nat) (A : Option Addr) (w : World) (hn : n ≤ maxLen) (hc : n ≤ cap) (h : RBy w w.heap.size A n) : Calls Tryd.prog 6 #[.slice A n cap] w (GotS w) := by
  have H := Lib.hid h
  have HC := Lib.hid hc
  have HNM := Lib.hid hn
  clear h hc hn
  go_enter Tryd.func6, Tryd.ntmps6
  go_wp2_with fail
  refine (open_any w.heap.size n cap A w HNM.out HC.out H.out (Nat.le_refl _)).mono ?_
  rintro e w1 ⟨rfl, hR, hb⟩
  have HR1 := Lib.hid hR
  have HB1 := Lib.hid hb
  have hlt := hR.lt
  clear hR hb
  go_wp2_with fail
  refine (of_any w.heap.size w.heap.size _ names8 _ _ _ (HR1.out.alloc _) (by omega) (by decide) (RStrs.lit _ _ names8 rfl (by decide)) (fun b o e => by injection e with e; injection e with e; omega)).mono ?_
  rintro e w2 ⟨k, hk, rfl, _, hg⟩
  have HS := Lib.hid (names8_size _ (List.getElem_mem hk))
  generalize names8[k] = s at HS
  have HB2 : Hid (Below w.heap.size w w2) := below_grown (HB1.out.alloc HB1.out.size _) hg (by have := HB1.out.size; simp; omega) (Nat.le_refl _)
  clear hg
  go_wp2_with fail
  go_ret
  exact ⟨s, rfl, HS.out, HB2.out⟩

/-- A world of one data type with one constructor. -/
def zl (s : ByteArray) : List Da := [⟨⟨#[90]⟩, [⟨s, [], 0⟩]⟩]
theorem zl_data (s : ByteArray) : dataB ((zl s).length : Nat) ⟨⟨#[90]⟩, [⟨s, [], 0⟩]⟩ = nameB s := by
  have h1 : dnameB ⟨#[90]⟩ = true := by decide +kernel
  unfold dataB
  rw [h1]
  show (true && (true && ([(⟨s, [], 0⟩ : Ct)].all (ctorB _)))) = nameB s
  simp only [Bool.true_and, List.all_cons, List.all_nil, Bool.and_true]
  unfold ctorB
  simp
theorem zl_ok (s : ByteArray) (h : nameB s = true) : WorldOK (zl s) := by
  refine ⟨show 1 ≤ 4 by omega, fun k hk _ => ?_, fun d hd _ => ⟨?_, fun j hj _ => ?_⟩⟩
  · obtain rfl : k = 0 := by have : k < 1 := hk; omega
    exact (zl_data s).trans h
  · obtain rfl : d = 0 := by have : d < 1 := hd; omega
    rintro ⟨i, hi, hlt, _⟩
    omega
  · obtain rfl : d = 0 := by have : d < 1 := hd; omega
    obtain rfl : j = 0 := by have : j < 1 := hj; omega
    rintro ⟨i, hi, m, hm, hlt, _⟩
    omega
theorem zl_no (s : ByteArray) (h : ¬ nameB s = true) : ¬ WorldOK (zl s) := fun hw => h ((zl_data s).symm.trans (hw.2.1 0 (show 0 < 1 by omega) (show 0 < 1 by omega)))
theorem zl_text (s : ByteArray) (h : nameB s = true) : fwT (zl s) = ⟨#[90, 61]⟩ ++ s := by
  rw [fwT_yes (zl_ok s h), wT_join]
  show joinB [daT (zl s) ⟨⟨#[90]⟩, [⟨s, [], 0⟩]⟩] _ = _
  rw [joinB_one]
  show ((⟨#[90]⟩ : ByteArray) ++ ⟨#[61]⟩) ++ joinB [ctT (zl s) ⟨s, [], 0⟩] _ = _
  rw [joinB_one]
  have e1 : ctT (zl s) ⟨s, [], 0⟩ = s := by
    have : ctT (zl s) ⟨s, [], 0⟩ = ctT2 (zl s) ⟨s, [], 0⟩ := if_neg (show ¬ (0 : Int) < 0 by omega)
    rw [this]
    exact ctT2_none rfl
  rw [e1]; rfl
theorem zl_reads (w : World) (s : ByteArray) (hs : s.size ≤ maxLen) : RDas ((w.alloc (.cells #[.string s, .slice none 0 0, .int .i64 0] 27)).alloc (.cells #[.string ⟨#[90]⟩, .slice (some ⟨w.heap.size, 0, none⟩) 1 1] 30)) ((w.alloc (.cells #[.string s, .slice none 0 0, .int .i64 0] 27)).alloc (.cells #[.string ⟨#[90]⟩, .slice (some ⟨w.heap.size, 0, none⟩) 1 1] 30)).heap.size (some ⟨w.heap.size + 1, 0, none⟩) (zl s) := by
  have hm1 : 1 ≤ maxLen := by unfold maxLen; omega
  refine ⟨hm1, fun k hk => ?_⟩
  obtain rfl : k = 0 := by have : k < 1 := hk; omega
  refine ⟨_, _, rfl, by simp, some ⟨w.heap.size, 0, none⟩, 1, by simp [go_sem, zl], by simp [go_sem, zl], hm1, hm1, fun j hj => ?_⟩
  obtain rfl : j = 0 := by have : j < 1 := hj; omega
  exact ⟨_, _, rfl, by simp; omega, none, 0, by simp [go_sem, zl], by simp [go_sem, zl], by simp [go_sem, zl], hs, Nat.zero_le _, fun m hm => absurd hm (Nat.not_lt_zero m)⟩

set_option maxHeartbeats 1600000 in
theorem nameValid_law (n cap : Nat) (A : Option Addr) (w : World) (hn : n ≤ maxLen) (hc : n ≤ cap) (h : RBy w w.heap.size A n) :
    Calls Tryd.prog 3 #[.slice A n cap] w fun e w' => e = .returned (.bool true) ∧ Below w.heap.size w w' := by
  have HM := Lib.hid (drawName_any n cap A w hn hc h)
  unfold maxLen at hn
  clear h hc
  by_cases hbig : n ≤ 1048576
  · have hbI : (n : Int) ≤ 1048576 := by omega
    go_enter Tryd.func3, Tryd.ntmps3
    go_wp2_with fail
    refine (HM.out).mono ?_
    rintro e w1 ⟨s, rfl, hs7, hb⟩
    have HB := Lib.hid hb
    have HSM : Hid (s.size ≤ maxLen) := by unfold Hid maxLen; omega
    clear hb HM
    by_cases hv : nameB s = true
    · have HV := Lib.hid hv
      have HOK := Lib.hid (zl_ok s hv)
      have HT := Lib.hid (zl_text s hv)
      have HRD := Lib.hid (zl_reads w1 s HSM.out)
      have HBW : Hid (Below w.heap.size w ((w1.alloc (.cells #[.string s, .slice none 0 0, .int .i64 0] 27)).alloc (.cells #[.string ⟨#[90]⟩, .slice (some ⟨w1.heap.size, 0, none⟩) 1 1] 30))) := (HB.out.alloc HB.out.size _).alloc (by have := HB.out.size; simp; omega) _
      clear hv
      go_wp2_with fail
      refine (nameV_impl s w1 HSM.out).mono ?_
      rw [HV.out]
      rintro e w2 ⟨rfl, rfl⟩
      go_wp2_with fail
      generalize ((w1.alloc (.cells #[.string s, .slice none 0 0, .int .i64 0] 27)).alloc (.cells #[.string ⟨#[90]⟩, .slice (some ⟨w1.heap.size, 0, none⟩) 1 1] 30)) = wz at HRD HBW ⊢
      refine (nameV_spec s _ HSM.out).mono ?_
      rw [HV.out]
      rintro e w2 ⟨rfl, rfl⟩
      go_wp2_with fail
      refine (worldI_yes HRD.out HOK.out).mono ?_
      rintro e w3 ⟨rfl, hb3⟩
      have HR3 := Lib.hid (HRD.out.at_ hb3)
      have HB3 := Lib.hid (below_after HBW.out hb3 HBW.out.size)
      clear hb3
      go_wp2_with fail
      refine (fworld_impl _ (zl s) _ _ HR3.out).mono ?_
      rw [HT.out]
      rintro e w4 ⟨rfl, hb4⟩
      have HB4 := Lib.hid (below_after HB3.out hb4 HB3.out.size)
      clear hb4
      go_wp2_with fail
      go_ret
      exact ⟨rfl, HB4.out⟩
    · have hv' : nameB s = false := by simpa using hv
      have HV := Lib.hid hv'
      have HOK := Lib.hid (zl_no s hv)
      have HRD := Lib.hid (zl_reads w1 s HSM.out)
      have HBW : Hid (Below w.heap.size w ((w1.alloc (.cells #[.string s, .slice none 0 0, .int .i64 0] 27)).alloc (.cells #[.string ⟨#[90]⟩, .slice (some ⟨w1.heap.size, 0, none⟩) 1 1] 30))) := (HB.out.alloc HB.out.size _).alloc (by have := HB.out.size; simp; omega) _
      clear hv hv'
      go_wp2_with fail
      refine (nameV_impl s w1 HSM.out).mono ?_
      rw [HV.out]
      rintro e w2 ⟨rfl, rfl⟩
      go_wp2_with fail
      generalize ((w1.alloc (.cells #[.string s, .slice none 0 0, .int .i64 0] 27)).alloc (.cells #[.string ⟨#[90]⟩, .slice (some ⟨w1.heap.size, 0, none⟩) 1 1] 30)) = wz at HRD HBW ⊢
      refine (nameV_spec s _ HSM.out).mono ?_
      rw [HV.out]
      rintro e w2 ⟨rfl, rfl⟩
      go_wp2_with fail
      refine (worldI_no HRD.out HOK.out).mono ?_
      rintro e w3 ⟨rfl, hb3⟩
      have HB3 := Lib.hid (below_after HBW.out hb3 HBW.out.size)
      clear hb3
      go_wp2_with fail
      go_ret
      exact ⟨rfl, HB3.out⟩
  · have hbI : (1048576 : Int) < (n : Int) := by omega
    go_enter Tryd.func3, Tryd.ntmps3
    go_wp2_with fail
    go_ret
    exact ⟨rfl, Below.refl _ _⟩
end Go.Proofs.YthebdlejoficmabDoor
