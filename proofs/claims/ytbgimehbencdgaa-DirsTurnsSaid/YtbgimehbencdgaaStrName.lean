/-
  Whether a text begins with a byte 47: the library's answer; whether a text is a name: the document's answer. Nothing of one statement alone stands here.
-/
import Derived.Test.YtbgimehbencdgaaStrCut
namespace Go.Proofs.Ytbgimehbencdgaa
open Go.RowKit Go.ChangeShapes

/-- whether a text begins with a byte 47 -/
def slB (s : ByteArray) : Bool := s.data.toList.head? == some 47
theorem slB_extract {s : ByteArray} (h : 1 ≤ s.size) : ((s.extract 0 1).toList == [47]) = slB s := by
  rw [ByteArray.toList_eq]
  obtain ⟨⟨l⟩⟩ := s
  match l, h with
  | b :: r, _ =>
    have e : ((⟨⟨b :: r⟩⟩ : ByteArray).extract 0 1).data.toList = [b] := by simp [ByteArray.data_extract]
    rw [e]
    unfold slB
    simp
  | [], h => exact absurd h (by decide)
theorem slB_none {s : ByteArray} (h : s.size < 1) : slB s = false := by
  obtain ⟨⟨l⟩⟩ := s
  match l, h with
  | b :: r, h => simp [ByteArray.size] at h
  | [], _ => rfl

set_option maxRecDepth 100000 in
set_option maxHeartbeats 1000000 in
/-- whether a text is a name: the document's answer -/
theorem refName_any (s : ByteArray) (w : World) :
    Calls Try.prog 28 #[.string s] w fun e w' => e = .returned (.int .i64 (nmE s)) ∧ w = w' := by
  by_cases h1 : s.size < 1
  · have e := Lib.hid (nm_no (s := s) fun h => by have := h.1; omega)
    have t1 : decide ((s.size : Int) < 1) = true := by simp; omega
    go_enter Try.func28, Try.ntmps28
    go_wp2
    go_ret
    exact ⟨sint e.out.symm, rfl⟩
  have t1 : decide ((s.size : Int) < 1) = false := by simp; omega
  by_cases h2 : 13 < s.size
  · have e := Lib.hid (nm_no (s := s) fun h => by have := h.1; omega)
    have t2 : decide ((13 : Int) < (s.size : Int)) = true := by simp; omega
    go_enter Try.func28, Try.ntmps28
    go_wp2
    go_ret
    exact ⟨sint e.out.symm, rfl⟩
  have t2 : decide ((13 : Int) < (s.size : Int)) = false := by simp; omega
  by_cases h3 : s = ⟨#[46]⟩
  · have e := Lib.hid (nm_no (s := s) fun h => h.2.1 h3)
    have t3 := str_eq h3
    rw [dot1] at t3
    clear h3
    go_enter Try.func28, Try.ntmps28
    go_wp2
    go_ret
    exact ⟨sint e.out.symm, rfl⟩
  have t3 := str_ne h3
  rw [dot1] at t3
  by_cases h4 : s = ⟨#[46, 46]⟩
  · have e := Lib.hid (nm_no (s := s) fun h => h.2.2.1 h4)
    have t4 := str_eq h4
    rw [dot2] at t4
    clear h3 h4
    go_enter Try.func28, Try.ntmps28
    go_wp2
    go_ret
    exact ⟨sint e.out.symm, rfl⟩
  have t4 := str_ne h4
  rw [dot2] at t4
  have H3 := Lib.hid h3
  have H4 := Lib.hid h4
  have n13 : s.size ≤ 13 := by omega
  clear h3 h4 h2
  go_enter Try.func28, Try.ntmps28
  go_wp2_with fail
  go_loop [3] (fun i => ∃ k : Nat, k ≤ s.size ∧ i = .int .i64 k ∧ Hid (∀ j (h : j < s.data.toList.length), j < k → s.data.toList[j] ≠ 47 ∧ s.data.toList[j] ≠ 0)) (fun i => s.size - (intOf i).toNat)
  case atStart => exact ⟨0, by omega, rfl, Lib.hid fun j _ hj => absurd hj (Nat.not_lt_zero _)⟩
  case round =>
    obtain ⟨k, hk, rfl, hN⟩ := hrel
    by_cases hlt : k < s.size
    · have kl : (k : Int) < (s.size : Int) := by omega
      have k0 : (0 : Int) ≤ (k : Int) := by omega
      have hkl : k < s.data.toList.length := by rw [Array.length_toList]; exact hlt
      have hbe : s[k] = s.data.toList[k] := rfl
      have HBE := Lib.hid hbe
      clear hbe
      by_cases hz : s[k].toNat = 0
      · have e := Lib.hid (nm_no (s := s) fun h => by
          have h0 : s.data.toList[k] = 0 := by rw [← HBE.out]; exact UInt8.toNat_inj.1 (by rw [hz]; rfl)
          exact (indexByte_lt0 _ _).1 h.2.2.2.2 _ (List.getElem_mem hkl) h0)
        go_wp2
        go_ret
        exact ⟨sint e.out.symm, rfl⟩
      by_cases hv : s[k].toNat = 47
      · have e := Lib.hid (nm_no (s := s) fun h => by
          have h0 : s.data.toList[k] = 47 := by rw [← HBE.out]; exact UInt8.toNat_inj.1 (by rw [hv]; rfl)
          exact (indexByte_lt0 _ _).1 h.2.2.2.1 _ (List.getElem_mem hkl) h0)
        have z0 : ((s[k].toNat : Int) == 0) = false := by simp; omega
        have z1 : ((s[k].toNat : Int) == 47) = true := by simp; omega
        go_wp2
        go_ret
        exact ⟨sint e.out.symm, rfl⟩
      · have z0 : ((s[k].toNat : Int) == 0) = false := by simp; omega
        have z1 : ((s[k].toNat : Int) == 47) = false := by simp; omega
        have HN' : Hid (∀ j (h : j < s.data.toList.length), j < k + 1 → s.data.toList[j] ≠ 47 ∧ s.data.toList[j] ≠ 0) := Lib.hid fun j h hj => by
          by_cases e : j = k
          · subst e
            exact ⟨fun g => hv (by rw [HBE.out, g]; rfl), fun g => hz (by rw [HBE.out, g]; rfl)⟩
          · exact hN.out j h (by omega)
        go_wp2
        go_round
        case rel => exact ⟨k + 1, by omega, by go_num, HN'⟩
        case measure => simp [intOf]; omega
    · have hks : k = s.size := by omega
      subst hks
      have e := Lib.hid (nm_yes (s := s) ⟨⟨by omega, by omega⟩, H3.out, H4.out, (indexByte_lt0 _ _).2 fun b hb => by
        obtain ⟨j, hj, rfl⟩ := List.mem_iff_getElem.1 hb
        exact (hN.out j hj (by rw [Array.length_toList] at hj; exact hj)).1, (indexByte_lt0 _ _).2 fun b hb => by
        obtain ⟨j, hj, rfl⟩ := List.mem_iff_getElem.1 hb
        exact (hN.out j hj (by rw [Array.length_toList] at hj; exact hj)).2⟩)
      go_wp2
      go_ret
      exact ⟨sint e.out.symm, rfl⟩
end Go.Proofs.Ytbgimehbencdgaa
