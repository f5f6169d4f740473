/-
  Texts as rows of bytes; a text whose first byte is taken away if it is 33.
-/
import Derived.Test.YtaielamimkigmaaGlobFits
namespace Go.Proofs.Ytaielamimkigmaa
open Go.RowKit Go.ChangeShapes Globm Go.ChangeMaps

theorem gbool2 {a b : Bool} (h : a = b) : Ending.returned (.bool a) = .returned (.bool b) := by rw [h]
theorem by8_from (s : ByteArray) (k : Nat) : by8 (s.extract k s.size) = (by8 s).drop k := by
  unfold by8
  rw [← List.map_drop]
  congr 1
  obtain ⟨⟨l⟩⟩ := s
  rw [ByteArray.data_extract]
  simp [ByteArray.size]
  exact List.take_of_length_le (by simp)
theorem by8_get {s : ByteArray} {k : Nat} (h : k < s.size) : (by8 s)[k]? = some s[k].toNat := by
  unfold by8
  rw [List.getElem?_map, List.getElem?_eq_getElem (by simpa using h)]
  simp
  rfl
theorem by8_drop {s : ByteArray} {k : Nat} (h : k < s.size) : (by8 s).drop k = s[k].toNat :: (by8 s).drop (k + 1) := Globm.drop_cons (by8_get h)
theorem by8_nil {s : ByteArray} (h : s.size = 0) : by8 s = [] := List.eq_nil_of_length_eq_zero (by rw [by8_length]; exact h)
theorem by8_lt {s : ByteArray} {x : Nat} (h : x ∈ by8 s) : x < 256 := by
  unfold by8 at h
  obtain ⟨b, _, rfl⟩ := List.mem_map.1 h
  exact UInt8.toNat_lt _

/-- whether a text begins with a byte 33 -/
def bgB (s : ByteArray) : Bool := s.data.toList.head? == some 33
theorem bgB_extract {s : ByteArray} (h : 1 ≤ s.size) : ((s.extract 0 1).toList == [33]) = bgB s := by
  rw [ByteArray.toList_eq]
  obtain ⟨⟨l⟩⟩ := s
  match l, h with
  | b :: r, _ =>
    have e : ((⟨⟨b :: r⟩⟩ : ByteArray).extract 0 1).data.toList = [b] := by simp [ByteArray.data_extract]
    rw [e]
    unfold bgB
    simp
  | [], h => exact absurd h (by decide)
theorem bgB_none {s : ByteArray} (h : s.size < 1) : bgB s = false := by
  obtain ⟨⟨l⟩⟩ := s
  match l, h with
  | b :: r, h => simp [ByteArray.size] at h
  | [], _ => rfl
theorem bgB_head (s : ByteArray) : bgB s = ((by8 s).head? == some 33) := by
  obtain ⟨⟨l⟩⟩ := s
  match l with
  | [] => rfl
  | b :: r =>
    show (some b == some 33) = (some b.toNat == some 33)
    rw [Bool.eq_iff_iff]
    simp [← UInt8.toNat_inj]

set_option maxRecDepth 100000 in
set_option maxHeartbeats 400000 in
theorem bang_any (s : ByteArray) (w : World) :
    Calls Try.prog 48 #[.string s, .string ⟨#[33]⟩] w fun e w' => e = .returned (.bool (bgB s)) ∧ w = w' := by
  by_cases h : s.size < 1
  · have t : decide ((1 : Int) ≤ (s.size : Int)) = false := by simp; omega
    have e := Lib.hid (bgB_none h)
    go_enter Try.func48, Try.ntmps48
    go_wp2
    go_ret
    exact ⟨gbool2 e.out.symm, rfl⟩
  · have t : decide ((1 : Int) ≤ (s.size : Int)) = true := by simp; omega
    have e := Lib.hid (bgB_extract (s := s) (by omega))
    have i1 : (1 : Int) ≤ (s.size : Int) := by omega
    go_enter Try.func48, Try.ntmps48
    go_wp2
    go_ret
    exact ⟨gbool2 e.out, rfl⟩

/-- a text behind its byte 33 -/
def bgR (s : ByteArray) : ByteArray := if bgB s then s.extract 1 s.size else s
set_option maxRecDepth 100000 in
theorem cutBang0_any (s : ByteArray) (w : World) :
    Calls Try.prog 68 #[.string s, .string ⟨#[33]⟩] w fun e w' => e = .returned (.tuple #[.string (bgR s), .bool (bgB s)]) ∧ w = w' := by
  have H := Lib.hid (bang_any s w)
  unfold bgR
  cases h : bgB s with
  | false =>
    rw [h] at H
    clear h
    go_enter Try.func68, Try.ntmps68
    go_wp2_with fail
    refine H.out.mono ?_
    rintro e w' ⟨rfl, rfl⟩
    go_wp2
    go_ret2
    exact ⟨rfl, rfl⟩
  | true =>
    rw [h] at H
    have h1 : (1 : Int) ≤ (s.size : Int) := by
      rcases Nat.lt_or_ge s.size 1 with g | g
      · rw [bgB_none g] at h; cases h
      · omega
    clear h
    go_enter Try.func68, Try.ntmps68
    go_wp2_with fail
    refine H.out.mono ?_
    rintro e w' ⟨rfl, rfl⟩
    go_wp2
    go_ret2
    exact ⟨rfl, rfl⟩
set_option maxRecDepth 100000 in
theorem cutBang_any (s : ByteArray) (w : World) :
    Calls Try.prog 64 #[.string s, .string ⟨#[33]⟩] w fun e w' => e = .returned (.tuple #[.string (bgR s), .bool (bgB s)]) ∧ w = w' := by
  have H := Lib.hid (cutBang0_any s w)
  go_enter Try.func64, Try.ntmps64
  go_wp2_with fail
  refine H.out.mono ?_
  rintro e w' ⟨rfl, rfl⟩
  go_wp2
  go_ret2
  exact ⟨rfl, rfl⟩
end Go.Proofs.Ytaielamimkigmaa
