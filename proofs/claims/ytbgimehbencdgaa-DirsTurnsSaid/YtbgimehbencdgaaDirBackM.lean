/-
  What is written is read as it was, and what is read is written as it lay: on lists. Nothing of one statement alone stands here.
-/
import Derived.Test.YtbgimehbencdgaaDirKnown
namespace Go.Proofs.Ytbgimehbencdgaa
open Go.RowKit Crcm Tagm Dirm Go.ChangeShapes

theorem back_wr {i : Int} {s : ByteArray} (hm : Mi i) (hn : Nm s) : rE (sb i s) = 0 ∧ rU (sb i s) = true ∧ eI (sb i s) = i ∧ eS (sb i s) = s := by
  have hs := hn.1
  have hlen := sb_length (i := i) hs.2
  have hk : rK (sb i s) = s.size := by simp [rK, sb]
  have hi : rI (sb i s) = i := by simp [rI, sb]; omega
  have hd : (sb i s).drop 3 = nb s ++ List.replicate (13 - s.size) 0 := by simp [sb]
  have hS : rS (sb i s) = s := by
    unfold rS
    rw [hk, hd, List.take_append_of_le_length (by rw [nb_length]; exact Nat.le_refl _), List.take_of_length_le (by rw [nb_length]; exact Nat.le_refl _)]
    exact strOf_nb s
  have hz : ¬ nz (sb i s) := fun h => by
    have h2 : (s.size : Int) = 0 := h 2 (by omega)
    have := hs.1
    omega
  have hR : nz ((sb i s).drop (3 + rK (sb i s))) := by
    rw [hk, ← List.drop_drop, hd, List.drop_append_of_le_length (by rw [nb_length]; exact Nat.le_refl _), List.drop_of_length_le (by rw [nb_length]; exact Nat.le_refl _)]
    intro j hj
    simp [List.getD_eq_getElem?_getD] at hj ⊢
    simp [hj]
  have hg : gd (sb i s) := ⟨by rw [hk]; exact hs.2, hR, by rw [hi]; exact hm.1, by rw [hS]; exact hn⟩
  obtain ⟨q1, q2, q3, q4⟩ := r_good hlen hz hg
  exact ⟨q1, q2, q3.trans hi, q4.trans hS⟩

theorem back_rd {l : List Int} (hU : ∀ n ∈ l, U8 n) (h : rU l = true) : wE (eI l) (eS l) = 0 ∧ wB (eI l) (eS l) = l := by
  have hu := h
  unfold rU at hu
  obtain ⟨hl, hz, hg⟩ := of_decide_eq_true hu
  obtain ⟨q1, q2, q3, q4⟩ := r_good hl hz hg
  rw [q3, q4]
  clear q1 q2 q3 q4 hu h hz
  match l, hl with
  | l0 :: l1 :: l2 :: r, hl =>
    have u0 : U8 l0 := hU _ (by simp)
    have u1 : U8 l1 := hU _ (by simp)
    have u2 : U8 l2 := hU _ (by simp)
    have hr : r.length = 13 := by simpa using hl
    obtain ⟨g1, g2, g3, g4⟩ := hg
    have hi : rI (l0 :: l1 :: l2 :: r) = l0 + 256 * l1 := by simp [rI]
    have hk : (rK (l0 :: l1 :: l2 :: r) : Int) = l2 := by unfold U8 at u2; simp [rK]; omega
    obtain ⟨k, hkk⟩ : ∃ k, rK (l0 :: l1 :: l2 :: r) = k := ⟨_, rfl⟩
    have hS : rS (l0 :: l1 :: l2 :: r) = strOfNums (r.take k) := by unfold rS; rw [hkk]; rfl
    rw [hkk] at g1 g2 hk
    have hnb : nb (strOfNums (r.take k)) = r.take k := nb_strOf (fun n hn => hU n (by simp [List.mem_of_mem_take hn]))
    have hsz : (strOfNums (r.take k)).size = k := by rw [← nb_length, hnb, List.length_take]; omega
    rw [hS] at g4 ⊢
    rw [hi] at g3 ⊢
    unfold U8 at u0 u1
    have hM : Mi (l0 + 256 * l1) := ⟨g3, by omega⟩
    have hE : wE (l0 + 256 * l1) (strOfNums (r.take k)) = 0 := by rw [wE_name hM, nm_yes g4]
    refine ⟨hE, ?_⟩
    unfold wB
    rw [if_pos hE]
    unfold sb
    rw [hnb, hsz, hk, show (l0 + 256 * l1) % 256 = l0 by omega, show (l0 + 256 * l1) / 256 = l1 by omega]
    have hrest : r.drop k = List.replicate (13 - k) 0 := by
      apply List.ext_getElem (by simp [hr])
      intro j hj1 hj2
      have hj : j < (List.drop (3 + k) (l0 :: l1 :: l2 :: r)).length := by simp at hj1 ⊢; omega
      have := g2 j hj
      have e3 : List.drop (3 + k) (l0 :: l1 :: l2 :: r) = r.drop k := by rw [← List.drop_drop]; rfl
      rw [e3, List.getD_eq_getElem?_getD, List.getElem?_eq_getElem hj1] at this
      simpa using this
    rw [← hrest, List.take_append_drop]

end Go.Proofs.Ytbgimehbencdgaa
