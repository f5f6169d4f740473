/-
  Whether a text begins with a byte 47: the library's answer; whether a text is a name: the document's answer. Nothing of one statement alone stands here.
-/
import Derived.Test.YtaielamimkigmaaStrCut
namespace Go.Proofs.Ytaielamimkigmaa
open Go.RowKit Go.ChangeShapes

/-- whether a text begins with a byte 47 -/
def slB (s : ByteArray) : Bool := s.data.toList.head? == some 47
theorem slB_extract {s : ByteArray} (h : 1 ≤ s.size) : ((s.extract 0 1).toList == [47]) = slB s := by
  rw [ByteArray.toList_eq]
  obtain ⟨⟨l⟩⟩ := s
  match l, h with
  | b :: r, _ =>
    have e : ((⟨⟨b :: r⟩⟩ : ByteArray).extract 0 1).data.toList = [b] := by simp [ByteArray.data_extract]
    rw [e]
    unfold slB
    simp
  | [], h => exact absurd h (by decide)
theorem slB_none {s : ByteArray} (h : s.size < 1) : slB s = false := by
  obtain ⟨⟨l⟩⟩ := s
  match l, h with
  | b :: r, h => simp [ByteArray.size] at h
  | [], _ => rfl

set_option maxRecDepth 100000 in
set_option maxHeartbeats 400000 in
theorem hasPrefix_any (s : ByteArray) (w : World) :
    Calls Try.prog 48 #[.string s, .string ⟨#[47]⟩] w fun e w' => e = .returned (.bool (slB s)) ∧ w = w' := by
  by_cases h : s.size < 1
  · have t : decide ((1 : Int) ≤ (s.size : Int)) = false := by simp; omega
    have e := Lib.hid (slB_none h)
    go_enter Try.func48, Try.ntmps48
    go_wp2
    go_ret
    exact ⟨sbool e.out.symm, rfl⟩
  · have t : decide ((1 : Int) ≤ (s.size : Int)) = true := by simp; omega
    have e := Lib.hid (slB_extract (s := s) (by omega))
    have i1 : (1 : Int) ≤ (s.size : Int) := by omega
    go_enter Try.func48, Try.ntmps48
    go_wp2
    go_ret
    exact ⟨sbool e.out, rfl⟩

set_option maxRecDepth 100000 in
set_option maxHeartbeats 400000 in
theorem stringsHasPrefix_any (s : ByteArray) (w : World) :
    Calls Try.prog 30 #[.string s, .string ⟨#[47]⟩] w fun e w' => e = .returned (.bool (slB s)) ∧ w = w' := by
  have H := Lib.hid (hasPrefix_any s w)
  go_enter Try.func30, Try.ntmps30
  go_wp2_with fail
  refine H.out.mono ?_
  rintro e w' ⟨rfl, rfl⟩
  go_wp2
  go_ret
  exact ⟨rfl, rfl⟩

end Go.Proofs.Ytaielamimkigmaa
