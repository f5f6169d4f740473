/-
  A byte looked for in a text, a text cut at a byte, a text's first byte. Nothing of one statement alone stands here.
-/
import Derived.Test.YtaielamimkigmaaStrSame
import Derived.Lib.Bytealg
import Derived.Laws.Externs
namespace Go.Proofs.Ytaielamimkigmaa
open Go.RowKit Go.ChangeShapes

/-- a text of one byte -/
def one (c : UInt8) : ByteArray := ⟨#[c]⟩

set_option maxRecDepth 100000 in
set_option maxHeartbeats 400000 in
theorem indexByte_any (s : ByteArray) (c : Int) (w : World) :
    Calls Try.prog 69 #[.string s, .int .u8 c] w fun e w' => e = .returned (.int .i64 (Lib.indexByte s.data.toList c.toNat.toUInt8)) ∧ w = w' := by
  go_enter Try.func69, Try.ntmps69
  go_wp2
  rw [run_callFunc_extern Try.func73 (by kernel_rfl) (by kernel_rfl) (by kernel_rfl) (e := Extern.BytealgIndexByte.indexByte) (by kernel_rfl), Lib.run_indexByteString]
  simp only [Result.andThen]
  rw [Oper.upon_value]
  go_wp2
  go_ret
  exact ⟨rfl, rfl⟩

theorem one47 : (⟨#[47]⟩ : ByteArray).toList = [47] := by rw [ByteArray.toList_eq]
set_option maxRecDepth 100000 in
set_option maxHeartbeats 400000 in
theorem index47_any (s : ByteArray) (w : World) :
    Calls Try.prog 67 #[.string s, .string ⟨#[47]⟩] w fun e w' => e = .returned (.int .i64 (Lib.indexByte s.data.toList 47)) ∧ w = w' := by
  by_cases h : (⟨#[47]⟩ : ByteArray) = s
  · subst h
    go_enter Try.func67, Try.ntmps67
    go_wp2
    go_ret
    exact ⟨rfl, rfl⟩
  · have t := str_ne h
    rw [one47] at t
    have HI := Lib.hid (fun w => indexByte_any s 47 w)
    clear h
    go_enter Try.func67, Try.ntmps67
    go_wp2_with fail
    refine (HI.out _).mono ?_
    rintro e w' ⟨rfl, rfl⟩
    go_wp2
    go_ret
    exact ⟨rfl, rfl⟩
theorem one0 : (⟨#[0]⟩ : ByteArray).toList = [0] := by rw [ByteArray.toList_eq]
set_option maxRecDepth 100000 in
set_option maxHeartbeats 400000 in
theorem index0_any (s : ByteArray) (w : World) :
    Calls Try.prog 67 #[.string s, .string ⟨#[0]⟩] w fun e w' => e = .returned (.int .i64 (Lib.indexByte s.data.toList 0)) ∧ w = w' := by
  by_cases h : (⟨#[0]⟩ : ByteArray) = s
  · subst h
    go_enter Try.func67, Try.ntmps67
    go_wp2
    go_ret
    exact ⟨rfl, rfl⟩
  · have t := str_ne h
    rw [one0] at t
    have HI := Lib.hid (fun w => indexByte_any s 0 w)
    clear h
    go_enter Try.func67, Try.ntmps67
    go_wp2_with fail
    refine (HI.out _).mono ?_
    rintro e w' ⟨rfl, rfl⟩
    go_wp2
    go_ret
    exact ⟨rfl, rfl⟩
/-- a name: neither too short nor too long, neither one byte 46 nor two, without bytes 47 and 0 -/
def Nm (s : ByteArray) : Prop := (1 ≤ s.size ∧ s.size ≤ 13) ∧ s ≠ ⟨#[46]⟩ ∧ s ≠ ⟨#[46, 46]⟩ ∧ Lib.indexByte s.data.toList 47 < 0 ∧ Lib.indexByte s.data.toList 0 < 0
instance (s : ByteArray) : Decidable (Nm s) := by unfold Nm; infer_instance
/-- what is told of a text: a name, or not -/
def nmE (s : ByteArray) : Int := if Nm s then 0 else 31
theorem nm_no {s : ByteArray} (h : ¬ Nm s) : nmE s = 31 := if_neg h
theorem nm_yes {s : ByteArray} (h : Nm s) : nmE s = 0 := if_pos h
theorem dot1 : (⟨#[46]⟩ : ByteArray).toList = [46] := by rw [ByteArray.toList_eq]
theorem dot2 : (⟨#[46, 46]⟩ : ByteArray).toList = [46, 46] := by rw [ByteArray.toList_eq]

theorem indexByte_lt0 (l : List UInt8) (c : UInt8) : Lib.indexByte l c < 0 ↔ ∀ b ∈ l, b ≠ c := by
  induction l with
  | nil => simp [Lib.indexByte]
  | cons b r ih =>
    simp only [Lib.indexByte, List.mem_cons, forall_eq_or_imp]
    have hge := Lib.indexByte_ge r c
    by_cases e : b = c
    · subst e; simp
    · have e' : (b == c) = false := by simp [e]
      rw [e']
      simp only [Bool.false_eq_true, if_false]
      rw [← ih]
      by_cases h : Lib.indexByte r c = -1
      · simp [h, e]
      · have h' : (Lib.indexByte r c == -1) = false := by simp [h]
        rw [h']
        simp only [Bool.false_eq_true, if_false]
        constructor
        · intro g; omega
        · intro g; have := g.2; omega

end Go.Proofs.Ytaielamimkigmaa
