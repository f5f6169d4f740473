/-
  The pieces of a text between its bytes 47: what is handed on by cuts is what is found place by place.
-/
import Derived.Test.YtaielamimkigmaaPathIter
namespace Go.Proofs.Ytaielamimkigmaa
open Go.RowKit

/-- a row of bytes, parted at its bytes 47 -/
def pcs : List UInt8 → List (List UInt8)
  | [] => [[]]
  | b :: r => if b = 47 then [] :: pcs r else match pcs r with
    | [] => [[b]]
    | p :: q => (b :: p) :: q
/-- those that are not empty -/
def ne (L : List (List UInt8)) : List (List UInt8) := L.filter fun p => !p.isEmpty
theorem pcs_no {l : List UInt8} (h : ∀ b ∈ l, b ≠ 47) : pcs l = [l] := by
  induction l with
  | nil => rfl
  | cons b r ih =>
    simp only [pcs]
    rw [if_neg (h b (by simp)), ih fun c hc => h c (by simp [hc])]
theorem pcs_cut {a r : List UInt8} (h : ∀ b ∈ a, b ≠ 47) : pcs (a ++ 47 :: r) = a :: pcs r := by
  induction a with
  | nil => simp [pcs]
  | cons b a ih =>
    simp only [List.cons_append, pcs]
    rw [if_neg (h b (by simp)), ih fun c hc => h c (by simp [hc])]
theorem ne_cons (p : List UInt8) (L : List (List UInt8)) : ne (p :: L) = if p = [] then ne L else p :: ne L := by
  unfold ne
  cases p <;> simp
theorem split_at {l : List UInt8} {f i : Nat} (hf : f ≤ i) (h : l[i]? = some 47) : l.drop f = (l.drop f).take (i - f) ++ 47 :: l.drop (i + 1) := by
  have hi := (List.getElem?_eq_some_iff.1 h).1
  have he := (List.getElem?_eq_some_iff.1 h).2
  have e1 : (l.drop f).drop (i - f) = 47 :: l.drop (i + 1) := by
    rw [List.drop_drop, show f + (i - f) = i by omega, List.drop_eq_getElem_cons hi, he]
  rw [← e1, List.take_append_drop]
theorem ext_list (s : ByteArray) (a b : Nat) : (s.extract a b).data.toList = (s.data.toList.drop a).take (b - a) := by
  rw [ByteArray.data_extract, Array.toList_extract]

theorem yr_pcs (f : Nat) : ∀ (s : ByteArray) (k : Bool), ms s k ≤ f → (yr f s k).map (·.data.toList) = if k then ne (pcs s.data.toList) else [] := by
  induction f with
  | zero =>
    intro s k h
    cases k with
    | false => rfl
    | true => simp [ms] at h
  | succ f ih =>
    intro s k h
    cases k with
    | false => rfl
    | true =>
      have hl := ms_less s
      have i1 := ih (cB s) (cK s) (by omega)
      simp only [yr, if_true]
      by_cases hi : 0 ≤ Lib.indexByte s.data.toList 47
      · obtain ⟨i, hii⟩ : ∃ i : Nat, Lib.indexByte s.data.toList 47 = i := ⟨(Lib.indexByte s.data.toList 47).toNat, by omega⟩
        obtain ⟨h1, h2⟩ := Lib.indexByte_some hii
        have eA : cA s = s.extract 0 i := by unfold cA; rw [if_pos hi, hii, Int.toNat_natCast]
        have eB : cB s = s.extract (i + 1) s.size := by unfold cB; rw [if_pos hi, hii, Int.toNat_natCast]
        have eK : cK s = true := by unfold cK; exact decide_eq_true hi
        have lA : (cA s).data.toList = s.data.toList.take i := by rw [eA, ext_list]; simp
        have lB : (cB s).data.toList = s.data.toList.drop (i + 1) := by
          rw [eB, ext_list]
          exact List.take_of_length_le (by rw [List.length_drop, Array.length_toList]; exact Nat.le_refl _)
        have hs := split_at (l := s.data.toList) (f := 0) (i := i) (Nat.zero_le _) h1
        rw [List.drop_zero, Nat.sub_zero] at hs
        have hp : pcs s.data.toList = s.data.toList.take i :: pcs (s.data.toList.drop (i + 1)) := by
          have := pcs_cut (a := s.data.toList.take i) (r := s.data.toList.drop (i + 1)) (fun b hb => by
            obtain ⟨j, hj, rfl⟩ := List.mem_iff_getElem.1 hb
            rw [List.length_take] at hj
            rw [List.getElem_take]
            intro e
            exact h2 j (by omega) (by rw [List.getElem?_eq_getElem (by omega), e]))
          rw [← hs] at this
          exact this
        rw [eK] at i1 ⊢
        rw [if_pos rfl, lB] at i1
        rw [hp, ne_cons, ← lA, ← i1]
        by_cases he : cA s = ⟨#[]⟩
        · rw [if_pos he, if_pos (by rw [he])]
        · rw [if_neg he, if_neg (fun g => he (by
            apply ByteArray.ext
            exact Array.toList_inj.1 g)), List.map_cons]
      · have eA : cA s = s := by unfold cA; rw [if_neg hi]
        have eK : cK s = false := by unfold cK; exact decide_eq_false hi
        rw [eK] at i1 ⊢
        rw [if_neg (by simp)] at i1
        rw [pcs_no ((indexByte_lt0 _ _).1 (by omega)), ne_cons, eA]
        have hn : ne [] = [] := rfl
        rw [hn]
        by_cases he : s = ⟨#[]⟩
        · rw [if_pos he, i1, if_pos (by rw [he])]
        · rw [if_neg he, if_neg (fun g => he (by
            apply ByteArray.ext
            exact Array.toList_inj.1 g)), List.map_cons, i1]

theorem ne_append (L M : List (List UInt8)) : ne (L ++ M) = ne L ++ ne M := by unfold ne; exact List.filter_append _ _
/-- what is found and what is left are all, at each place -/
theorem st_inv (s : ByteArray) (i : Nat) (hi : i ≤ s.size) :
    ne (pcs s.data.toList) = (st s i).1.map (·.data.toList) ++ ne (pcs (s.data.toList.drop (st s i).2)) ∧ ∀ j, (st s i).2 ≤ j → j < i → s.data.toList[j]? ≠ some 47 := by
  induction i with
  | zero => exact ⟨by simp [st], fun j _ h => absurd h (Nat.not_lt_zero _)⟩
  | succ i ih =>
    obtain ⟨h1, h2⟩ := ih (by omega)
    have hfl := st_le s i
    by_cases hb : s.data.toList[i]? = some 47
    · have hs := split_at (l := s.data.toList) (f := (st s i).2) (i := i) hfl hb
      have hp := pcs_cut (a := (s.data.toList.drop (st s i).2).take (i - (st s i).2)) (r := s.data.toList.drop (i + 1)) (fun b hbm => by
        obtain ⟨j, hj, rfl⟩ := List.mem_iff_getElem.1 hbm
        rw [List.length_take, List.length_drop] at hj
        rw [List.getElem_take, List.getElem_drop]
        intro e
        exact h2 ((st s i).2 + j) (by omega) (by omega) (by rw [List.getElem?_eq_getElem (by omega), e]))
      rw [← hs] at hp
      rw [hp, ne_cons] at h1
      by_cases hf : (st s i).2 < i
      · have e := st_yes (s := s) (k := i) (.inr hb) hf
        rw [e]
        refine ⟨?_, fun j g1 g2 => ?_⟩
        · rw [h1, if_neg (fun g => by
            have := congrArg List.length g
            have hi' := (List.getElem?_eq_some_iff.1 hb).1
            rw [List.length_take, List.length_drop] at this
            simp at this
            omega), List.map_append, List.append_assoc]
          congr 1
          simp only [List.map_cons, List.map_nil, List.cons_append, List.nil_append]
          rw [ext_list]
        · dsimp only at g1; omega
      · have e := st_on (s := s) (k := i) (.inr hb) hf
        rw [e]
        refine ⟨?_, fun j g1 g2 => ?_⟩
        · rw [h1, if_pos (by rw [show i - (st s i).2 = 0 by omega, List.take_zero])]
        · dsimp only at g1; omega
    · have e := st_no (s := s) (k := i) (fun h => h.elim (fun g => by omega) hb)
      rw [e]
      refine ⟨h1, fun j g1 g2 => ?_⟩
      by_cases ej : j = i
      · subst ej; exact hb
      · exact h2 j g1 (by omega)
theorem parts_pcs (s : ByteArray) : (parts s).map (·.data.toList) = ne (pcs s.data.toList) := by
  obtain ⟨h1, h2⟩ := st_inv s s.size (Nat.le_refl _)
  have hfl := st_le s s.size
  have hlen : s.data.toList.length = s.size := Array.length_toList
  have hp : pcs (s.data.toList.drop (st s s.size).2) = [s.data.toList.drop (st s s.size).2] := pcs_no fun b hb => by
    obtain ⟨j, hj, rfl⟩ := List.mem_iff_getElem.1 hb
    rw [List.length_drop] at hj
    rw [List.getElem_drop]
    intro e
    exact h2 ((st s s.size).2 + j) (by omega) (by omega) (by rw [List.getElem?_eq_getElem (by omega), e])
  rw [hp, ne_cons] at h1
  have hn : ne [] = [] := rfl
  rw [hn] at h1
  rw [h1]
  unfold parts
  by_cases hf : (st s s.size).2 < s.size
  · rw [st_yes (s := s) (k := s.size) (.inl rfl) hf, if_neg (fun g => by
      have := congrArg List.length g
      rw [List.length_drop] at this
      simp at this
      omega), List.map_append]
    congr 1
    simp only [List.map_cons, List.map_nil]
    rw [ext_list, List.take_of_length_le (by rw [List.length_drop]; omega)]
  · rw [st_on (s := s) (k := s.size) (.inl rfl) hf, if_pos (List.drop_of_length_le (by omega)), List.append_nil]

theorem map_inj {L M : List ByteArray} (h : L.map (·.data.toList) = M.map (·.data.toList)) : L = M := by
  induction L generalizing M with
  | nil => cases M with
    | nil => rfl
    | cons b m => simp at h
  | cons a l ih => cases M with
    | nil => simp at h
    | cons b m =>
      simp only [List.map_cons, List.cons.injEq] at h
      have e : a = b := ByteArray.ext (Array.toList_inj.1 h.1)
      rw [e, ih h.2]
/-- what is handed on of a text that begins with a byte 47 is what is found in it -/
theorem yl_parts {s : ByteArray} (h : slB s = true) : yl (cB s) (cK s) = parts s := by
  refine map_inj ?_
  rw [parts_pcs]
  unfold slB at h
  have h := eq_of_beq h
  obtain ⟨r, hr⟩ : ∃ r, s.data.toList = 47 :: r := by
    cases hl : s.data.toList with
    | nil => rw [hl] at h; cases h
    | cons b r =>
      rw [hl] at h
      simp only [List.head?_cons, Option.some.injEq] at h
      exact ⟨r, by rw [h]⟩
  have hi : Lib.indexByte s.data.toList 47 = (0 : Nat) := by rw [hr]; rfl
  have eK : cK s = true := by unfold cK; rw [hi]; rfl
  have eB : (cB s).data.toList = r := by
    unfold cB
    rw [if_pos (by omega), hi, ext_list, hr]
    have hlen : (47 :: r).length = s.size := by rw [← hr]; exact Array.length_toList
    simp only [Int.toNat_natCast, Nat.zero_add, List.drop_succ_cons, List.drop_zero]
    exact List.take_of_length_le (by simp at hlen; omega)
  have := yr_pcs (ms (cB s) (cK s)) (cB s) (cK s) (Nat.le_refl _)
  rw [eK, if_pos rfl, eB] at this
  unfold yl
  rw [eK, this, hr]
  have hc := pcs_cut (a := []) (r := r) (fun b hb => by cases hb)
  rw [List.nil_append] at hc
  rw [hc, ne_cons, if_pos rfl]
end Go.Proofs.Ytaielamimkigmaa
