/-
  The texts of values: plain mathematics. No statement is proved here.
-/
import Derived.Test.YthebdlejoficmacDoorJoinB
import Derived.Test.YthebdlejoficmacDoorFitV
namespace Go.Proofs.YthebdlejoficmacDoor
open Go.RowKit Go.Deep
set_option maxRecDepth 100000
set_option linter.unusedVariables false

/-- The name of a constructor of a type. -/
def nmT (l : List Da) (t : Ty) (c : Int) : ByteArray := ((l.getD t.data.toNat default).ctors.getD c.toNat default).name
theorem nmT_at {l : List Da} {d m : Nat} {i : Int} (hd : d < l.length) (hm : m < l[d].ctors.length) : nmT l ⟨d, i⟩ m = l[d].ctors[m].name := by
  unfold nmT
  simp only [Int.toNat_natCast]
  have e : l.getD d default = l[d] := by rw [List.getD_eq_getElem?_getD, List.getElem?_eq_getElem hd]; rfl
  rw [e, List.getD_eq_getElem?_getD, List.getElem?_eq_getElem hm]; rfl
theorem name_le5 {s : ByteArray} (h : nameB s = true) : s.size ≤ 5 := by
  by_cases h5 : s.size ≤ 5
  · exact h5
  · have := name_long (s := s) (by omega); rw [h] at this; cases this
theorem ctor_nm5 {n : Int} {c : Ct} (h : ctorB n c = true) : c.name.size ≤ 5 := by
  unfold ctorB at h
  simp only [Bool.and_eq_true] at h
  exact name_le5 h.1
theorem nmT_size {l : List Da} {t : Ty} {c : Int} (h : c ∈ ctR l t) : (nmT l t c).size ≤ 5 := by
  obtain ⟨ht, d, m, hd, h1, rfl, hm⟩ := mem_ctR h
  obtain ⟨td, ti⟩ := t
  simp only at h1
  subst h1
  rw [nmT_at hd hm]
  exact ctor_nm5 (world_ctor ht.1 hd hm)

/-- The text of a value, down to a depth. -/
def vlT (l : List Da) (ag : Ty → Int → List Ty) : Nat → Ty → Vl → ByteArray
  | 0, _, _ => ⟨#[]⟩
  | d + 1, t, v => if t.data = -1 then dig v.n else twT (nmT l t v.ctor) ((List.range (ag t v.ctor).length).map fun i => vlT l ag d ((ag t v.ctor).getD i default) (v.kids.getD i default))
noncomputable def txV (l : List Da) (d : Nat) (t : Ty) (v : Vl) : ByteArray := vlT l (agR l) d t v
noncomputable def txK (l : List Da) (d : Nat) (ats : List Ty) (ks : List Vl) : List ByteArray := (List.range ats.length).map fun i => txV l d (ats.getD i default) (ks.getD i default)
section
variable {l : List Da} {d : Nat} {t : Ty} {v : Vl}
theorem txV_int (h : t.data = -1) : txV l (d + 1) t v = dig v.n := if_pos h
theorem txV_data (h : ¬ t.data = -1) : txV l (d + 1) t v = twT (nmT l t v.ctor) (txK l d (agR l t v.ctor) v.kids) := if_neg h
theorem txK_len {ats : List Ty} {ks : List Vl} : (txK l d ats ks).length = ats.length := by unfold txK; simp
theorem txK_at {ats : List Ty} {ks : List Vl} {i : Nat} (h : i < ats.length) (h' : i < ks.length) (h2 : i < (txK l d ats ks).length) : (txK l d ats ks)[i] = txV l d ats[i] ks[i] := by
  have h3 : (txK l d ats ks)[i]? = some (txV l d ats[i] ks[i]) := by
    unfold txK
    rw [List.getElem?_map, List.getElem?_range h]
    simp only [Option.map_some]
    rw [List.getD_eq_getElem?_getD, List.getD_eq_getElem?_getD, List.getElem?_eq_getElem h, List.getElem?_eq_getElem h']; rfl
  exact (List.getElem?_eq_some_iff.1 h3).2
end
theorem fit_parts {l : List Da} {d : Nat} {t : Ty} {v : Vl} (h : fitV l (d + 1) t v = true) (ht : ¬ t.data = -1) : v.n = 0 ∧ v.ctor ∈ ctR l t ∧ v.kids.length = (agR l t v.ctor).length ∧ upto (kidV l d (agR l t v.ctor) v.kids) (agR l t v.ctor).length = true := by
  by_cases hn : v.n = 0
  · by_cases hc : v.ctor ∈ ctR l t
    · by_cases hk : v.kids.length = (agR l t v.ctor).length
      · rw [fit_go ht hn hc hk] at h
        exact ⟨hn, hc, hk, h⟩
      · rw [fit_len ht hk] at h; cases h
    · rw [fit_ctor ht hc] at h; cases h
  · rw [fit_n ht hn] at h; cases h
theorem fit_num {l : List Da} {d : Nat} {t : Ty} {v : Vl} (h : fitV l (d + 1) t v = true) (ht : t.data = -1) : 0 ≤ v.n ∧ v.n ≤ 9 := by
  rw [fit_int ht] at h
  simp only [Bool.and_eq_true, decide_eq_true_eq] at h
  exact ⟨h.2.1, h.2.2.1⟩
/-- How long a text is. -/
theorem txV_size {l : List Da} : ∀ (d : Nat) {t : Ty} {v : Vl}, fitV l d t v = true → (txV l d t v).size + 5 ≤ 5 * 3 ^ d
  | 0, _, _, h => by cases h
  | d + 1, t, v, h => by
    have hp : 1 ≤ 3 ^ d := Nat.pow_pos (by omega)
    have hs : 3 ^ (d + 1) = 3 * 3 ^ d := by rw [Nat.pow_succ, Nat.mul_comm]
    by_cases ht : t.data = -1
    · rw [txV_int ht, dig_size, hs]; omega
    · obtain ⟨_, hc, hk, hu⟩ := fit_parts h ht
      rw [txV_data ht]
      have hnm := nmT_size hc
      have hm3 := agR_len l t v.ctor
      have hts : ∀ x ∈ txK l d (agR l t v.ctor) v.kids, x.size ≤ 5 * 3 ^ d - 5 := by
        intro x hx
        obtain ⟨i, hi, rfl⟩ := List.getElem_of_mem hx
        have hi' : i < (agR l t v.ctor).length := by rw [txK_len] at hi; exact hi
        have h1 := upto_get hu hi'
        rw [kidV_at hi' (by omega)] at h1
        have := txV_size d h1
        rw [txK_at hi' (by omega)]
        omega
      have hj := joinB_size ⟨#[44]⟩ (5 * 3 ^ d - 5) _ hts
      rw [txK_len] at hj
      have h4 : (ByteArray.mk #[44]).size = 1 := rfl
      have hj2 : (agR l t v.ctor).length * (5 * 3 ^ d - 5 + (ByteArray.mk #[44]).size) ≤ 3 * (5 * 3 ^ d - 5 + 1) := Nat.mul_le_mul hm3 (by omega)
      rw [hs]
      unfold twT
      split
      · omega
      · rw [ByteArray.size_append, ByteArray.size_append, ByteArray.size_append]
        have e1 : (ByteArray.mk #[40]).size = 1 := rfl
        have e2 : (ByteArray.mk #[41]).size = 1 := rfl
        omega
theorem txV_short {l : List Da} {d : Nat} (hd : d ≤ 10) {t : Ty} {v : Vl} (h : fitV l d t v = true) : (txV l d t v).size ≤ 300000 := by
  have h1 := txV_size d h
  have h2 : 3 ^ d ≤ 3 ^ 10 := Nat.pow_le_pow_right (by omega) hd
  have h3 : (3 : Nat) ^ 10 = 59049 := by decide
  omega

/-- As the document's function builds it. -/
def acT (nm : ByteArray) (ts : List ByteArray) : Nat → ByteArray
  | 0 => nm
  | k + 1 => (acT nm ts k ++ (if k = 0 then ⟨#[40]⟩ else ⟨#[44]⟩)) ++ ts.getD k ⟨#[]⟩
theorem acT_at {nm : ByteArray} {ts : List ByteArray} {k : Nat} (h : k < ts.length) : acT nm ts (k + 1) = (acT nm ts k ++ (if k = 0 then ⟨#[40]⟩ else ⟨#[44]⟩)) ++ ts[k] := by
  show _ ++ ts.getD k ⟨#[]⟩ = _
  rw [List.getD_eq_getElem?_getD, List.getElem?_eq_getElem h]; rfl
theorem acT_join {nm : ByteArray} {ts : List ByteArray} : ∀ k, k < ts.length → acT nm ts (k + 1) = (nm ++ ⟨#[40]⟩) ++ joinB (ts.take (k + 1)) ⟨#[44]⟩
  | 0, h => by
    rw [acT_at h, if_pos rfl, List.take_succ_eq_append_getElem h]
    show _ = _ ++ joinB [ts[0]] _
    rw [joinB_one]; rfl
  | k + 1, h => by
    rw [acT_at h, if_neg (by omega), acT_join k (by omega), List.take_succ_eq_append_getElem h, joinB_snoc _ _ _ (by
      intro e
      have h1 := congrArg List.length e
      rw [List.length_take] at h1
      simp only [List.length_nil] at h1
      omega)]
    simp only [ByteArray.append_assoc]
theorem acT_all {nm : ByteArray} {ts : List ByteArray} (h : 0 < ts.length) : acT nm ts ts.length ++ ⟨#[41]⟩ = twT nm ts := by
  have := acT_join (nm := nm) (ts := ts) (ts.length - 1) (by omega)
  rw [show ts.length - 1 + 1 = ts.length by omega, List.take_length] at this
  rw [twT_some (by omega), this]
theorem acT_none {nm : ByteArray} {ts : List ByteArray} (h : ts.length = 0) : acT nm ts ts.length = twT nm ts := by rw [twT_none h, h]; rfl
theorem acT_size {nm : ByteArray} {ts : List ByteArray} {m : Nat} (hm : ∀ t ∈ ts, t.size ≤ m) : ∀ k, k ≤ ts.length → (acT nm ts k).size ≤ nm.size + k * (m + 1)
  | 0, _ => by show nm.size ≤ _; omega
  | k + 1, h => by
    have h1 := acT_size (nm := nm) hm k (by omega)
    have h2 := hm ts[k] (List.getElem_mem (by omega))
    rw [acT_at (by omega), ByteArray.size_append, ByteArray.size_append, Nat.add_mul, Nat.one_mul]
    have e : ((if k = 0 then ⟨#[40]⟩ else ⟨#[44]⟩ : ByteArray)).size = 1 := by split <;> rfl
    omega
end Go.Proofs.YthebdlejoficmacDoor
