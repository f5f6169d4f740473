/-
  A text cut at a byte 47. Nothing of one statement alone stands here.
-/
import Derived.Test.YtaielamimkigmaaStrFind
import Derived.Lib.IndexLaws
import Derived.BigQuiet
namespace Go.Proofs.Ytaielamimkigmaa
open Go.RowKit Go.ChangeShapes

set_option maxRecDepth 100000 in
set_option maxHeartbeats 400000 in
/-- a text cut at a byte 47 -/
theorem cut47_any (s : ByteArray) (w : World) (hs : s.size ≤ 4000000000000000000) :
    Calls Try.prog 61 #[.string s, .string ⟨#[47]⟩] w fun e w' => (∃ a b k, e = .returned (.tuple #[.string a, .string b, .bool k]) ∧
      ((k = false ∧ Lib.indexByte s.data.toList 47 < 0 ∧ a = s ∧ b = ⟨#[]⟩) ∨ (k = true ∧ ∃ i : Nat, Lib.indexByte s.data.toList 47 = i ∧ a = s.extract 0 i ∧ b = s.extract (i + 1) s.size))) ∧ ∃ q, w' = w.drewN q := by
  have HI := Lib.hid (fun w => index47_any s w)
  by_cases h : Lib.indexByte s.data.toList 47 < 0
  · have HN := Lib.hid h
    generalize Lib.indexByte s.data.toList 47 = i at h HI HN ⊢
    have t : decide (0 ≤ i) = false := by simp; omega
    clear h
    go_enter Try.func61, Try.ntmps61
    go_wp2_with fail
    refine (HI.out _).mono ?_
    rintro e w' ⟨rfl, rfl⟩
    go_wp2
    exact bodyPost_ret (v := .tuple #[.string s, .string ⟨#[]⟩, .bool false]) (by simp [results, Try.results61, go_sem]) rfl ⟨⟨s, ⟨#[]⟩, false, rfl, .inl ⟨rfl, HN.out, rfl, rfl⟩⟩, 0, rfl⟩
  · obtain ⟨i, hi⟩ : ∃ i : Nat, Lib.indexByte s.data.toList 47 = i := ⟨(Lib.indexByte s.data.toList 47).toNat, by omega⟩
    have hlt : i < s.size := by
      have h1 := (Lib.indexByte_some hi).1
      have h2 := (List.getElem?_eq_some_iff.1 h1).1
      rw [Array.length_toList] at h2
      exact h2
    have HIi := Lib.hid hi
    have ws : wrap64 ((i : Int) + 1) = (i : Int) + 1 := IntWalk.wrap64_in _ ⟨by omega, by omega⟩
    clear hs
    rw [hi] at HI
    have t : decide ((0 : Int) ≤ (i : Int)) = true := by simp
    have i1 : (i : Int) ≤ (s.size : Int) := by omega
    have i0 : (0 : Int) ≤ (i : Int) := by omega
    have i2 : (i : Int) + 1 ≤ (s.size : Int) := by omega
    clear h hi
    go_enter Try.func61, Try.ntmps61
    go_wp2_with fail
    refine (HI.out _).mono ?_
    rintro e w' ⟨rfl, rfl⟩
    go_wp2_with fail
    go_quiet (fail)
    go_wp2
    exact bodyPost_ret (v := .tuple #[.string (s.extract 0 i), .string (s.extract (i + 1) s.size), .bool true]) (by simp [results, Try.results61, go_sem]) rfl ⟨⟨_, _, true, rfl, .inr ⟨rfl, i, HIi.out, rfl, rfl⟩⟩, _, rfl⟩

/-- what is ahead of a text's first byte 47, what is behind it, and whether there is one -/
def Cut47 (s a b : ByteArray) (k : Bool) : Prop :=
  (k = false ∧ Lib.indexByte s.data.toList 47 < 0 ∧ a = s ∧ b = ⟨#[]⟩) ∨ (k = true ∧ ∃ i : Nat, Lib.indexByte s.data.toList 47 = i ∧ a = s.extract 0 i ∧ b = s.extract (i + 1) s.size)

set_option maxRecDepth 100000 in
set_option maxHeartbeats 400000 in
theorem stringsCut_any (s : ByteArray) (w : World) (hs : s.size ≤ 4000000000000000000) :
    Calls Try.prog 51 #[.string s, .string ⟨#[47]⟩] w fun e w' => (∃ a b k, e = .returned (.tuple #[.string a, .string b, .bool k]) ∧ Cut47 s a b k) ∧ ∃ q, w' = w.drewN q := by
  have HC := Lib.hid (cut47_any s w hs)
  clear hs
  go_enter Try.func51, Try.ntmps51
  go_wp2_with fail
  refine HC.out.mono ?_
  rintro e w' ⟨⟨a, b, k, rfl, hk⟩, hb⟩
  have HK := Lib.hid hk
  have HB := Lib.hid hb
  clear hk hb HC
  go_wp2
  exact bodyPost_ret (v := .tuple #[.string a, .string b, .bool k]) (by simp [results, Try.results51, go_sem]) rfl ⟨⟨a, b, k, rfl, HK.out⟩, HB.out⟩

/-- whether a text begins with a byte 47 -/
def Sl (s : ByteArray) : Prop := ∃ r, s.data.toList = 47 :: r
theorem sl_extract {s : ByteArray} (h : 1 ≤ s.size) : s.extract 0 1 = ⟨#[47]⟩ ↔ Sl s := by
  obtain ⟨⟨l⟩⟩ := s
  match l, h with
  | b :: r, _ =>
    have e : ((⟨⟨b :: r⟩⟩ : ByteArray).extract 0 1) = ⟨#[b]⟩ := by
      apply ByteArray.ext
      simp [ByteArray.data_extract]
    rw [e]
    unfold Sl
    constructor
    · intro g
      injection g with g
      have : b = 47 := by simpa using g
      exact ⟨r, by rw [this]⟩
    · rintro ⟨r', g⟩
      simp only [List.cons.injEq] at g
      rw [g.1]
  | [], h => exact absurd h (by decide)
end Go.Proofs.Ytaielamimkigmaa
