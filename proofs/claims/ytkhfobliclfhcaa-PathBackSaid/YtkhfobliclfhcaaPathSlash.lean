/-
  More bytes 47 where one stands, and at the end, play no part: the parts are the same.
-/
import Derived.Test.YtkhfobliclfhcaaPathKnown
namespace Go.Proofs.Ytkhfobliclfhcaa
open Go.RowKit Go.ChangeShapes

theorem pcs_some (l : List UInt8) : pcs l ≠ [] := by
  cases l with
  | nil => simp [pcs]
  | cons b r =>
    simp only [pcs]
    split
    · simp
    · split <;> simp
theorem pcs_at (a b : List UInt8) : pcs (a ++ 47 :: b) = pcs a ++ pcs b := by
  induction a with
  | nil => simp [pcs]
  | cons c a ih =>
    simp only [List.cons_append, pcs]
    by_cases h : c = 47
    · rw [if_pos h, if_pos h, ih]; rfl
    · rw [if_neg h, if_neg h, ih]
      cases hp : pcs a with
      | nil => exact absurd hp (pcs_some a)
      | cons p q => rfl
theorem ne_nil : ne (pcs []) = [] := rfl
theorem ne_slashes (n : Nat) (b : List UInt8) : ne (pcs (List.replicate n 47 ++ b)) = ne (pcs b) := by
  induction n with
  | zero => rfl
  | succ n ih =>
    rw [List.replicate_succ, List.cons_append]
    have := pcs_at [] (List.replicate n 47 ++ b)
    rw [List.nil_append] at this
    rw [this, ne_append, ne_nil, List.nil_append, ih]
theorem slash_ins (a r : List UInt8) (n : Nat) : ne (pcs (a ++ (List.replicate n 47 ++ 47 :: r))) = ne (pcs (a ++ 47 :: r)) := by
  cases n with
  | zero => rfl
  | succ n =>
    have g := ne_slashes n []
    rw [List.append_nil] at g
    rw [List.replicate_succ, List.cons_append, pcs_at, pcs_at, pcs_at, ne_append, ne_append, ne_append, g, ne_nil, List.nil_append]
theorem slash_end (l : List UInt8) (n : Nat) : ne (pcs (l ++ List.replicate n 47)) = ne (pcs l) := by
  cases n with
  | zero => rw [List.replicate_zero, List.append_nil]
  | succ n =>
    rw [List.replicate_succ, pcs_at, ne_append]
    have := ne_slashes n []
    rw [List.append_nil] at this
    rw [this, ne_nil, List.append_nil]
theorem parts_same {s t : ByteArray} (h : ne (pcs s.data.toList) = ne (pcs t.data.toList)) : parts s = parts t := map_inj (by rw [parts_pcs, parts_pcs, h])
theorem ps_same {s t : ByteArray} (h1 : ¬ s.size < 1) (h2 : ¬ 255 < s.size) (g1 : ¬ t.size < 1) (g2 : ¬ 255 < t.size) (hs : slB s = true) (ht : slB t = true) (h : parts s = parts t) : psE s = psE t := by
  unfold psE
  rw [if_neg (fun h => h.elim h1 (fun h => h.elim h2 (fun g => by rw [hs] at g; cases g))), if_neg (fun h => h.elim g1 (fun h => h.elim g2 (fun g => by rw [ht] at g; cases g))), h]

/-- so many bytes 47 -/
def sls (n : Nat) : ByteArray := ⟨(List.replicate n 47).toArray⟩
theorem sls_size (n : Nat) : (sls n).size = n := by simp [sls, ByteArray.size]
theorem sls_more (n : Nat) : sls n ++ ⟨#[47]⟩ = sls (n + 1) := by
  apply ByteArray.ext
  apply Array.toList_inj.1
  simp [sls, ByteArray.data_append, List.replicate_succ']
theorem app_list (s t : ByteArray) : (s ++ t).data.toList = s.data.toList ++ t.data.toList := by
  rw [ByteArray.data_append, Array.toList_append]
theorem sls_list (n : Nat) : (sls n).data.toList = List.replicate n 47 := rfl

/-- behind a text -/
theorem sl_end {p : ByteArray} (n : Nat) (h0 : ¬ p.size < 1) (h1 : p.size ≤ 200) (hn : n < 20) (hb : slB p = true) : psE (p ++ sls n) = psE p ∧ parts (p ++ sls n) = parts p := by
  have e : parts (p ++ sls n) = parts p := parts_same (by rw [app_list, sls_list, slash_end])
  have hz : (p ++ sls n).size = p.size + n := by rw [ByteArray.size_append, sls_size]
  refine ⟨ps_same (by omega) (by omega) h0 (by omega) ?_ hb e, e⟩
  unfold slB at hb ⊢
  rw [app_list]
  cases hl : p.data.toList with
  | nil => rw [hl] at hb; cases hb
  | cons b r => rw [hl] at hb; exact hb
/-- where one stands -/
theorem sl_ins {p : ByteArray} (k n : Nat) (h0 : ¬ p.size < 1) (h1 : p.size ≤ 200) (hn : n < 20) (hb : slB p = true) (hk : p.data.toList[k]? = some 47) :
    psE (p.extract 0 k ++ sls n ++ p.extract k p.size) = psE p ∧ parts (p.extract 0 k ++ sls n ++ p.extract k p.size) = parts p := by
  have hkl := (List.getElem?_eq_some_iff.1 hk).1
  have hke := (List.getElem?_eq_some_iff.1 hk).2
  have hlen : p.data.toList.length = p.size := Array.length_toList
  have l0 : (p.extract 0 k).data.toList = p.data.toList.take k := by rw [ext_list]; simp
  have l1 : (p.extract k p.size).data.toList = p.data.toList.drop k := by
    rw [ext_list]; exact List.take_of_length_le (by rw [List.length_drop]; omega)
  have l2 : p.data.toList.drop k = 47 :: p.data.toList.drop (k + 1) := by rw [List.drop_eq_getElem_cons hkl, hke]
  have hl : (p.extract 0 k ++ sls n ++ p.extract k p.size).data.toList = p.data.toList.take k ++ (List.replicate n 47 ++ 47 :: p.data.toList.drop (k + 1)) := by
    rw [app_list, app_list, sls_list, l0, l1, l2, List.append_assoc]
  have hp : p.data.toList = p.data.toList.take k ++ 47 :: p.data.toList.drop (k + 1) := by
    rw [← l2, List.take_append_drop]
  have e : parts (p.extract 0 k ++ sls n ++ p.extract k p.size) = parts p := parts_same (by rw [hl, slash_ins, ← hp])
  have hz : (p.extract 0 k ++ sls n ++ p.extract k p.size).size = p.size + n := by
    rw [ByteArray.size_append, ByteArray.size_append, sls_size, ByteArray.size_extract, ByteArray.size_extract]
    omega
  refine ⟨ps_same (by omega) (by omega) h0 (by omega) ?_ hb e, e⟩
  unfold slB at hb ⊢
  rw [hl]
  cases hc : p.data.toList with
  | nil => rw [hc] at hkl; simp at hkl
  | cons b r =>
    rw [hc] at hb
    cases k with
    | zero =>
      cases n with
      | zero => rfl
      | succ n => rfl
    | succ k => exact hb
end Go.Proofs.Ytkhfobliclfhcaa
