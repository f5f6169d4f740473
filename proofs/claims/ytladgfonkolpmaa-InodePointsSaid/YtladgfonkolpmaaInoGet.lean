/-
  Inodes got from table pages and put there: the program's answers.
-/
import Derived.Test.YtladgfonkolpmaaInoReadW
namespace Inom
open Go Crcm Tagm
theorem splice_same {L cs : List Int} {o : Nat} (h : o + cs.length ≤ L.length) : ((splice L o cs).drop o).take cs.length = cs := by
  unfold splice
  rw [List.drop_append, List.length_take, Nat.min_eq_left (by omega), Nat.sub_self, List.drop_zero, List.drop_of_length_le (by rw [List.length_take]; omega), List.nil_append, List.take_append_of_le_length (Nat.le_refl _), List.take_of_length_le (Nat.le_refl _)]
theorem splice_other {L cs : List Int} {o p n : Nat} (h : o + cs.length ≤ L.length) (hd : p + n ≤ o ∨ o + cs.length ≤ p) : ((splice L o cs).drop p).take n = (L.drop p).take n := by
  apply List.ext_getElem?
  intro i
  rw [List.getElem?_take, List.getElem?_take]
  by_cases hi : i < n
  · rw [if_pos hi, if_pos hi, List.getElem?_drop, List.getElem?_drop]
    unfold splice
    rcases hd with hlt | hgt
    · rw [List.getElem?_append_left (by rw [List.length_take]; omega), List.getElem?_take, if_pos (by omega)]
    · rw [List.getElem?_append_right (by rw [List.length_take]; omega), List.length_take, Nat.min_eq_left (by omega), List.getElem?_append_right (by omega), List.getElem?_drop]
      congr 1
      omega
  · rw [if_neg hi, if_neg hi]
theorem splice_u8 {L cs : List Int} {o : Nat} (h : ∀ b ∈ L, U8 b) (h2 : ∀ b ∈ cs, U8 b) : ∀ b ∈ splice L o cs, U8 b := by
  intro b hb
  unfold splice at hb
  rcases List.mem_append.1 hb with g | g
  · exact h b (List.mem_of_mem_take g)
  · rcases List.mem_append.1 g with g | g
    · exact h2 b g
    · exact h b (List.mem_of_mem_drop g)
end Inom
namespace Go.Proofs.Ytladgfonkolpmaa
open Go.RowKit Crcm Tagm Inom Go.ChangeShapes

def rdI (l : List Int) : Ind := if nat_ l 1 1 = 0 ∧ IR (rd l) then rd l else zi
def rdE (l : List Int) : Int := if nat_ l 1 1 = 0 ∧ IR (rd l) then 0 else 51
theorem rdV_eq (l : List Int) : rdV l = .tuple #[iv (rdI l), .int .i64 (rdE l)] := by
  unfold rdV rdI rdE
  by_cases h : nat_ l 1 1 = 0 ∧ IR (rd l)
  · rw [if_pos h, if_pos h, if_pos h]
  · rw [if_neg h, if_neg h, if_neg h]

/-- a table page of so many bytes has an inode of that number -/
def Inn (n : Nat) (K : Int) : Prop := 0 ≤ K ∧ K < per n
instance (n : Nat) (K : Int) : Decidable (Inn n K) := by unfold Inn; infer_instance
theorem Inn.sz {n : Nat} {K : Int} (h : Inn n K) : ∃ k : Nat, K = k ∧ k * 24 + 24 ≤ n ∧ n ≤ 512 := by
  obtain ⟨h0, h1⟩ := h
  obtain ⟨k, rfl⟩ := Int.eq_ofNat_of_zero_le h0
  by_cases hs : Sz n
  · rw [per_yes hs] at h1
    unfold Sz at hs
    exact ⟨k, rfl, by omega, by omega⟩
  · rw [per_no hs] at h1; omega

def gI (l : List Int) (K : Int) : Ind := if Inn l.length K then rdI ((l.drop (K.toNat * 24)).take 24) else zi
def gE (l : List Int) (K : Int) : Int := if Inn l.length K then rdE ((l.drop (K.toNat * 24)).take 24) else 1

end Go.Proofs.Ytladgfonkolpmaa
