/-
  Slots of a directory: their bytes, and the calls on bytes that are 0. Nothing of one statement alone stands here.
-/
import Derived.Test.YtbgimehbencdgaaTagNum
import Derived.Test.YtbgimehbencdgaaStrName
import Derived.Test.YtbgimehbencdgaaBlk
import Derived.WalkMore
import Derived.Lib.BufferWrite
namespace Go.Proofs.Ytbgimehbencdgaa
open Go.RowKit Crcm Tagm Go.ChangeShapes

/-- a text's bytes -/
def nb (s : ByteArray) : List Int := s.data.toList.map fun b => (b.toNat : Int)
theorem nb_length (s : ByteArray) : (nb s).length = s.size := by unfold nb; simp
theorem nb_U8 (s : ByteArray) : ∀ n ∈ nb s, U8 n := fun n hn => by
  unfold nb at hn
  obtain ⟨b, -, rfl⟩ := List.mem_map.1 hn
  have := b.toNat_lt
  unfold U8; omega
theorem nb_strOf {l : List Int} (h : ∀ n ∈ l, U8 n) : nb (strOfNums l) = l := by
  unfold nb
  rw [strOfNums_data, List.map_map]
  conv => rhs; rw [← List.map_id l]
  refine List.map_congr_left fun n hn => ?_
  have := h n hn
  unfold U8 at this
  simp only [Function.comp, id_eq]
  have e : (UInt8.ofNat n.toNat).toNat = n.toNat := by
    rw [UInt8.toNat_ofNat']; omega
  rw [e]; omega
theorem strOf_nb (s : ByteArray) : strOfNums (nb s) = s := by
  apply ByteArray.ext
  apply Array.toList_inj.1
  rw [strOfNums_data]
  unfold nb
  rw [List.map_map]
  conv => rhs; rw [← List.map_id s.data.toList]
  refine List.map_congr_left fun b _ => ?_
  simp

/-- all bytes are 0 -/
def nz (l : List Int) : Prop := ∀ j, j < l.length → l.getD j 0 = 0
instance (l : List Int) : Decidable (nz l) := by unfold nz; infer_instance
theorem nz_mem {l : List Int} : nz l ↔ ∀ x ∈ l, x = 0 := by
  constructor
  · intro h x hx
    obtain ⟨i, hi, e⟩ := List.getElem_of_mem hx
    have := h i hi
    rw [List.getD_eq_getElem?_getD, List.getElem?_eq_getElem hi] at this
    rw [← e]; exact this
  · intro h j hj
    rw [List.getD_eq_getElem?_getD, List.getElem?_eq_getElem hj]
    exact h _ (List.getElem_mem hj)
theorem dbool {a b : Bool} (h : a = b) : Ending.returned (.bool a) = .returned (.bool b) := by rw [h]
theorem Rw.at {w : World} {a : Option Addr} {l : List Int} (h : Rw w a l) {j : Nat} (hj : j < l.length) : ∃ b off, a = some ⟨b, off, none⟩ ∧ w.cell? ⟨b, off + j, none⟩ = some (.int .u8 (l.getD j 0)) := by
  rcases h.2.2 with rfl | ⟨b, off, rfl, h3⟩
  · simp at hj
  · exact ⟨b, off, rfl, h3 j hj⟩

set_option maxRecDepth 100000 in
theorem empty_any (l : List Int) (a : Option Addr) (c n : Nat) (w : World) (ha : Rw w a l) (hl : l.length = n) (n1 : n ≤ 9223372036854775807) :
    Calls Try.prog 29 #[.slice a n c] w fun e w' => e = .returned (.bool (decide (nz l))) ∧ w = w' := by
  have HA := Lib.hid ha
  have HL := Lib.hid hl
  clear ha hl
  go_enter Try.func29, Try.ntmps29
  go_wp2_with fail
  go_loop [7] (fun i => ∃ k : Nat, k ≤ n ∧ i = .int .i64 k ∧ Hid (∀ j, j < k → l.getD j 0 = 0)) (fun i => n - (intOf i).toNat)
  case atStart => exact ⟨0, by omega, rfl, Lib.hid (fun j hj => absurd hj (Nat.not_lt_zero _))⟩
  case round =>
    obtain ⟨k, hk, rfl, E⟩ := hrel
    by_cases hlt : k < n
    · have hkl : k < l.length := by have := HL.out; omega
      obtain ⟨b1, o1, rfl, h1⟩ := HA.out.at hkl
      have kl : (k : Int) < (n : Int) := by omega
      have HY : Hid (l.getD k 0 ≠ 0 → decide (nz l) = false) := Lib.hid (fun g => decide_eq_false (fun h => g (h k hkl)))
      have HN : Hid (l.getD k 0 = 0 → ∀ j, j < k + 1 → l.getD j 0 = 0) := Lib.hid (fun g j hj => by
        by_cases e : j = k
        · subst e; exact g
        · exact E.out j (by omega))
      generalize l.getD k 0 = y at h1 HY HN
      by_cases hxy : y = 0
      · have HD := Lib.hid (HN.out hxy)
        have t : ((y : Int) != 0) = false := by simp [hxy]
        clear HY HN hxy
        go_wp2
        go_round
        case rel => exact ⟨k + 1, by omega, by go_num, HD⟩
        case measure => simp [intOf]; omega
      · have HD := Lib.hid (HY.out hxy)
        have t : ((y : Int) != 0) = true := by simp [hxy]
        clear HY HN hxy
        go_wp2
        go_ret
        exact ⟨dbool HD.out.symm, rfl⟩
    · have hkn : k = n := by omega
      subst hkn
      go_wp2
      go_ret
      exact ⟨dbool (decide_eq_true (fun j hj => E.out j (by have := HL.out; omega))).symm, rfl⟩

set_option maxRecDepth 100000 in
theorem refzero_any (l : List Int) (a : Option Addr) (c n : Nat) (w : World) (ha : Rw w a l) (hl : l.length = n) (n1 : n ≤ 9223372036854775807) :
    Calls Try.prog 30 #[.slice a n c] w fun e w' => e = .returned (.bool (decide (nz l))) ∧ w = w' := by
  have HA := Lib.hid ha
  have HL := Lib.hid hl
  clear ha hl
  go_enter Try.func30, Try.ntmps30
  go_wp2_with fail
  go_loop [3] (fun i => ∃ k : Nat, k ≤ n ∧ i = .int .i64 k ∧ Hid (∀ j, j < k → l.getD j 0 = 0)) (fun i => n - (intOf i).toNat)
  case atStart => exact ⟨0, by omega, rfl, Lib.hid (fun j hj => absurd hj (Nat.not_lt_zero _))⟩
  case round =>
    obtain ⟨k, hk, rfl, E⟩ := hrel
    by_cases hlt : k < n
    · have hkl : k < l.length := by have := HL.out; omega
      obtain ⟨b1, o1, rfl, h1⟩ := HA.out.at hkl
      have kl : (k : Int) < (n : Int) := by omega
      have HY : Hid (l.getD k 0 ≠ 0 → decide (nz l) = false) := Lib.hid (fun g => decide_eq_false (fun h => g (h k hkl)))
      have HN : Hid (l.getD k 0 = 0 → ∀ j, j < k + 1 → l.getD j 0 = 0) := Lib.hid (fun g j hj => by
        by_cases e : j = k
        · subst e; exact g
        · exact E.out j (by omega))
      generalize l.getD k 0 = y at h1 HY HN
      by_cases hxy : y = 0
      · have HD := Lib.hid (HN.out hxy)
        have t : ((y : Int) != 0) = false := by simp [hxy]
        clear HY HN hxy
        go_wp2
        go_round
        case rel => exact ⟨k + 1, by omega, by go_num, HD⟩
        case measure => simp [intOf]; omega
      · have HD := Lib.hid (HY.out hxy)
        have t : ((y : Int) != 0) = true := by simp [hxy]
        clear HY HN hxy
        go_wp2
        go_ret
        exact ⟨dbool HD.out.symm, rfl⟩
    · have hkn : k = n := by omega
      subst hkn
      go_wp2
      go_ret
      exact ⟨dbool (decide_eq_true (fun j hj => E.out j (by have := HL.out; omega))).symm, rfl⟩

/-- whether an entry may have the inode -/
def Mi (i : Int) : Prop := 1 ≤ i ∧ i ≤ 65535
instance (i : Int) : Decidable (Mi i) := by unfold Mi; infer_instance
set_option maxRecDepth 100000 in
theorem mayBe_any (i : Int) (w : World) : Calls Try.prog 26 #[.int .i64 i] w fun e w' => e = .returned (.bool (decide (Mi i))) ∧ w = w' := by
  have H := Lib.hid (fun (h : 1 ≤ i ∧ i ≤ 65535) => (decide_eq_true h : decide (Mi i) = true))
  have H2 := Lib.hid (fun (h : ¬ (1 ≤ i ∧ i ≤ 65535)) => (decide_eq_false h : decide (Mi i) = false))
  by_cases h1 : 1 ≤ i
  · by_cases h2 : i ≤ 65535
    · have R := Lib.hid (H.out ⟨h1, h2⟩)
      clear H H2
      go_enter Try.func26, Try.ntmps26
      go_wp2
      go_ret
      exact ⟨dbool (by rw [R.out]), rfl⟩
    · have R := Lib.hid (H2.out (fun g => h2 g.2))
      clear H H2
      go_enter Try.func26, Try.ntmps26
      go_wp2
      go_ret
      exact ⟨dbool (by rw [R.out]), rfl⟩
  · have R := Lib.hid (H2.out (fun g => h1 g.1))
    clear H H2
    go_enter Try.func26, Try.ntmps26
    go_wp2
    go_ret
    exact ⟨dbool (by rw [R.out]), rfl⟩

end Go.Proofs.Ytbgimehbencdgaa
