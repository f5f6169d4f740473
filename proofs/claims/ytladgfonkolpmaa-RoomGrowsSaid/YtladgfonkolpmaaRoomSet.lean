/-
  Rows sorted and each number once: by sorting and striking what is twice, and by putting each number where it belongs. Nothing of the program stands here.
-/
import Derived.Test.YtladgfonkolpmaaRoomMath
import Derived.Lib.SlicesCompact
namespace Roomm
open Crcm Tagm Inom

/-- the numbers from one up to, and without, another -/
def upto (fr to : Int) : List Int := (List.range (to - fr).toNat).map fun (i : Nat) => fr + (i : Int)
theorem upto_none {fr to : Int} (h : to ≤ fr) : upto fr to = [] := by unfold upto; rw [show (to - fr).toNat = 0 by omega]; rfl
theorem upto_snoc {fr to : Int} (h : fr ≤ to) : upto fr (to + 1) = upto fr to ++ [to] := by
  unfold upto
  rw [show (to + 1 - fr).toNat = (to - fr).toNat + 1 by omega, List.range_succ, List.map_append]
  congr 1
  simp; omega
theorem upto_length (fr to : Int) : (upto fr to).length = (to - fr).toNat := by unfold upto; simp
theorem mem_upto {fr to x : Int} : x ∈ upto fr to ↔ fr ≤ x ∧ x < to := by
  unfold upto
  simp only [List.mem_map, List.mem_range]
  constructor
  · rintro ⟨i, hi, rfl⟩; omega
  · intro h; exact ⟨(x - fr).toNat, by omega, by omega⟩
/-- all numbers of a row and from one up to another -/
def ext (l : List Int) (fr to : Int) : List Int := l ++ if 0 ≤ fr ∧ to ≤ 131072 then upto fr to else []
theorem ext_no {l : List Int} {fr to : Int} (h : ¬ (0 ≤ fr ∧ to ≤ 131072)) : ext l fr to = l := by unfold ext; rw [if_neg h, List.append_nil]
theorem ext_yes {l : List Int} {fr to : Int} (h : 0 ≤ fr ∧ to ≤ 131072) : ext l fr to = l ++ upto fr to := by unfold ext; rw [if_pos h]
theorem ext_length (l : List Int) (fr to : Int) : (ext l fr to).length ≤ l.length + 131072 := by
  by_cases h : 0 ≤ fr ∧ to ≤ 131072
  · rw [ext_yes h, List.length_append, upto_length]; omega
  · rw [ext_no h]; omega

/-- a row sorted, each number once -/
def srt (l : List Int) : List Int := Go.Lib.compact (l.mergeSort fun x y => decide (x ≤ y))

theorem compactUpTo_mem (d : Array Int) (m : Nat) (x : Int) : x ∈ Go.Lib.compactUpTo d m ↔ ∃ j, j < m ∧ Go.Lib.keeps d j = true ∧ d[j]! = x := by
  unfold Go.Lib.compactUpTo
  simp only [List.mem_map, List.mem_filter, List.mem_range]
  constructor
  · rintro ⟨j, ⟨h1, h2⟩, h3⟩; exact ⟨j, h1, h2, h3⟩
  · rintro ⟨j, h1, h2, h3⟩; exact ⟨j, ⟨h1, h2⟩, h3⟩
theorem keeps_first (d : Array Int) (j : Nat) : ∃ i, i ≤ j ∧ Go.Lib.keeps d i = true ∧ d[i]! = d[j]! := by
  induction j with
  | zero => exact ⟨0, Nat.le_refl _, by simp [Go.Lib.keeps], rfl⟩
  | succ j ih =>
    by_cases h : d[j + 1]! = d[j]!
    · obtain ⟨i, h1, h2, h3⟩ := ih
      exact ⟨i, by omega, h2, by rw [h3, h]⟩
    · exact ⟨j + 1, Nat.le_refl _, by simp [Go.Lib.keeps, h], rfl⟩
theorem compact_mem (l : List Int) (x : Int) : x ∈ Go.Lib.compact l ↔ x ∈ l := by
  unfold Go.Lib.compact
  rw [compactUpTo_mem]
  constructor
  · rintro ⟨j, h1, -, rfl⟩
    have : l.toArray[j]! = l[j] := by simp [h1]
    rw [this]; exact List.getElem_mem h1
  · intro h
    obtain ⟨j, hj, rfl⟩ := List.getElem_of_mem h
    obtain ⟨i, h1, h2, h3⟩ := keeps_first l.toArray j
    exact ⟨i, by omega, h2, by rw [h3]; simp [hj]⟩
theorem compact_pairwise (l : List Int) (h : l.Pairwise (· ≤ ·)) : (Go.Lib.compact l).Pairwise (· < ·) := by
  rw [List.pairwise_iff_getElem] at h
  have hle : ∀ i j, i ≤ j → j < l.length → l.toArray[i]! ≤ l.toArray[j]! := fun i j hij hj => by
    have e1 : l.toArray[i]! = l[i] := by simp [show i < l.length by omega]
    have e2 : l.toArray[j]! = l[j] := by simp [hj]
    rw [e1, e2]
    rcases Nat.lt_or_eq_of_le hij with g | rfl
    · exact h i j (by omega) hj g
    · exact Int.le_refl _
  unfold Go.Lib.compact Go.Lib.compactUpTo
  rw [List.pairwise_map]
  have hr : ((List.range l.length).filter (Go.Lib.keeps l.toArray)).Pairwise (fun i j => i < j ∧ j < l.length ∧ Go.Lib.keeps l.toArray j = true) := by
    have h1 : (List.range l.length).Pairwise (· < ·) := List.pairwise_lt_range
    have h2 := h1.filter (Go.Lib.keeps l.toArray)
    refine h2.imp_of_mem (fun {a b} _ hb hab => ?_)
    rw [List.mem_filter, List.mem_range] at hb
    exact ⟨hab, hb.1, hb.2⟩
  refine hr.imp fun {i j} hij => ?_
  obtain ⟨h1, h2, h3⟩ := hij
  have h4 := hle i (j - 1) (by omega) (by omega)
  have h5 := hle (j - 1) j (by omega) h2
  have h6 : l.toArray[j]! ≠ l.toArray[j - 1]! := by
    simp only [Go.Lib.keeps, decide_eq_true_eq] at h3
    rcases h3 with h3 | h3
    · omega
    · exact h3
  omega

theorem srt_mem (l : List Int) (x : Int) : x ∈ srt l ↔ x ∈ l := by unfold srt; rw [compact_mem, List.mem_mergeSort]
theorem srt_pairwise (l : List Int) : (srt l).Pairwise (· < ·) := by
  unfold srt
  refine compact_pairwise _ ?_
  have := List.pairwise_mergeSort (le := fun x y : Int => decide (x ≤ y)) (fun a b c h1 h2 => by simp at *; omega) (fun a b => by simp; omega) l
  exact this.imp (fun h => by simpa using h)
theorem srt_ris (l : List Int) : ris (srt l) := ris_of_pairwise (srt_pairwise l)
theorem srt_id {l : List Int} (h : ris l) : srt l = l := pairwise_ext (srt_pairwise l) (ris_pairwise h) (srt_mem l)
theorem srt_length_le (l : List Int) : (srt l).length ≤ l.length := nodup_le (srt_pairwise l) fun x hx => (srt_mem l x).1 hx
theorem upto_ris (fr to : Int) : ris (upto fr to) := by
  refine ris_of_pairwise ?_
  unfold upto
  rw [List.pairwise_map]
  exact List.pairwise_lt_range.imp (fun h => by omega)

/-- a number put where it belongs -/
def ins (l : List Int) (x : Int) : List Int := if x ∈ l then l else l.takeWhile (fun y => decide (y < x)) ++ x :: l.dropWhile (fun y => decide (y < x))
theorem ins_mem (l : List Int) (x y : Int) : y ∈ ins l x ↔ y ∈ l ∨ y = x := by
  unfold ins
  by_cases h : x ∈ l
  · rw [if_pos h]
    constructor
    · exact .inl
    · rintro (h1 | rfl)
      · exact h1
      · exact h
  · rw [if_neg h]
    have e := List.takeWhile_append_dropWhile (p := fun y => decide (y < x)) (l := l)
    constructor
    · intro hy
      rw [List.mem_append, List.mem_cons] at hy
      rcases hy with hy | hy | hy
      · left; rw [← e]; exact List.mem_append_left _ hy
      · exact .inr hy
      · left; rw [← e]; exact List.mem_append_right _ hy
    · rintro (hy | rfl)
      · rw [← e, List.mem_append] at hy
        rw [List.mem_append, List.mem_cons]
        rcases hy with hy | hy
        · exact .inl hy
        · exact .inr (.inr hy)
      · simp
theorem dropWhile_head {p : Int → Bool} : ∀ {l : List Int} {y : Int} {r : List Int}, l.dropWhile p = y :: r → p y = false
  | [], y, r, h => by simp at h
  | z :: l, y, r, h => by
    rw [List.dropWhile_cons] at h
    split at h
    · exact dropWhile_head h
    · rename_i hz; injection h with h1 _; subst h1; simpa using hz
theorem takeWhile_all {p : Int → Bool} : ∀ {l : List Int} {y : Int}, y ∈ l.takeWhile p → p y = true
  | [], y, h => by simp at h
  | z :: l, y, h => by
    rw [List.takeWhile_cons] at h
    split at h
    · rename_i hz
      rcases List.mem_cons.1 h with rfl | h
      · exact hz
      · exact takeWhile_all h
    · simp at h
theorem while_at {p : Int → Bool} : ∀ {l : List Int} {k : Nat}, k ≤ l.length → (∀ j, j < k → p (l.getD j 0) = true) → (k = l.length ∨ p (l.getD k 0) = false) → l.takeWhile p = l.take k ∧ l.dropWhile p = l.drop k
  | [], k, h, _, _ => by simp at h; subst h; exact ⟨rfl, rfl⟩
  | z :: l, 0, _, _, h => by
    have hz : p z = false := by rcases h with h | h; · simp at h
                                · simpa using h
    simp [hz]
  | z :: l, k + 1, h, h1, h2 => by
    have hz : p z = true := by simpa using h1 0 (by omega)
    have ih := while_at (l := l) (k := k) (by simpa using h) (fun j hj => by simpa using h1 (j + 1) (by omega)) (by simpa using h2)
    simp [hz, ih.1, ih.2]
theorem ins_at {l : List Int} {x : Int} {k : Nat} (hx : x ∉ l) (hk : k ≤ l.length) (h1 : ∀ j, j < k → l.getD j 0 < x) (h2 : k = l.length ∨ ¬ l.getD k 0 < x) : ins l x = l.take k ++ x :: l.drop k := by
  unfold ins
  rw [if_neg hx]
  obtain ⟨e1, e2⟩ := while_at (p := fun y => decide (y < x)) hk (fun j hj => decide_eq_true (h1 j hj)) (h2.imp id fun h => decide_eq_false h)
  rw [e1, e2]
theorem ins_is {l : List Int} {x : Int} (hx : x ∈ l) : ins l x = l := by unfold ins; rw [if_pos hx]
theorem ins_length (l : List Int) (x : Int) : (ins l x).length ≤ l.length + 1 := by
  unfold ins
  split
  · omega
  · have := congrArg List.length (List.takeWhile_append_dropWhile (p := fun y => decide (y < x)) (l := l))
    rw [List.length_append] at this
    rw [List.length_append, List.length_cons]; omega
theorem ins_pairwise {l : List Int} (h : l.Pairwise (· < ·)) (x : Int) : (ins l x).Pairwise (· < ·) := by
  unfold ins
  by_cases hx : x ∈ l
  · rw [if_pos hx]; exact h
  · rw [if_neg hx]
    have e := List.takeWhile_append_dropWhile (p := fun y => decide (y < x)) (l := l)
    have h' := h
    rw [← e] at h'
    obtain ⟨h1, h2, h3⟩ := List.pairwise_append.1 h'
    have ht : ∀ y ∈ l.takeWhile (fun y => decide (y < x)), y < x := fun y hy => by simpa using takeWhile_all hy
    have hd : ∀ y ∈ l.dropWhile (fun y => decide (y < x)), x < y := fun y hy => by
      cases hd : l.dropWhile (fun y => decide (y < x)) with
      | nil => rw [hd] at hy; cases hy
      | cons z r =>
        have hz := dropWhile_head hd
        simp at hz
        rw [hd] at hy h2
        have hzl : z ∈ l := by rw [← e, hd]; simp
        have hzx : z ≠ x := fun q => hx (q ▸ hzl)
        rcases List.mem_cons.1 hy with rfl | hy
        · omega
        · have := (List.pairwise_cons.1 h2).1 y hy; omega
    refine List.pairwise_append.2 ⟨h1, List.pairwise_cons.2 ⟨hd, h2⟩, fun a ha b hb => ?_⟩
    rcases List.mem_cons.1 hb with rfl | hb
    · exact ht a ha
    · have := ht a ha; have := hd b hb; omega
/-- each number of a row put where it belongs -/
def insAll (l : List Int) : List Int := l.foldl ins []
theorem fold_ins : ∀ (m l : List Int), l.Pairwise (· < ·) → (m.foldl ins l).Pairwise (· < ·) ∧ ∀ x, x ∈ m.foldl ins l ↔ x ∈ l ∨ x ∈ m
  | [], l, h => ⟨h, fun x => by simp⟩
  | y :: m, l, h => by
    obtain ⟨h1, h2⟩ := fold_ins m (ins l y) (ins_pairwise h y)
    refine ⟨h1, fun x => ?_⟩
    rw [List.foldl_cons, h2, ins_mem, List.mem_cons, or_assoc]
theorem insAll_eq (l : List Int) : insAll l = srt l := by
  obtain ⟨h1, h2⟩ := fold_ins l [] List.Pairwise.nil
  exact pairwise_ext h1 (srt_pairwise l) fun x => by rw [srt_mem]; have := h2 x; simpa [insAll] using this
theorem insAll_snoc (l : List Int) (x : Int) : insAll (l ++ [x]) = ins (insAll l) x := by unfold insAll; rw [List.foldl_append]; rfl

end Roomm
