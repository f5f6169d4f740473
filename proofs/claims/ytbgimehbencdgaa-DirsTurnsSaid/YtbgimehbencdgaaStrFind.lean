/-
  A byte looked for in a text, a text cut at a byte, a text's first byte. Nothing of one statement alone stands here.
-/
import Derived.Test.YtbgimehbencdgaaStrSame
import Derived.Lib.Bytealg
import Derived.Laws.Externs
namespace Go.Proofs.Ytbgimehbencdgaa
open Go.RowKit Go.ChangeShapes

/-- a text of one byte -/
def one (c : UInt8) : ByteArray := ⟨#[c]⟩

set_option maxRecDepth 100000 in
set_option maxHeartbeats 400000 in
theorem indexByte_any (s : ByteArray) (c : Int) (w : World) :
    Calls Try.prog 41 #[.string s, .int .u8 c] w fun e w' => e = .returned (.int .i64 (Lib.indexByte s.data.toList c.toNat.toUInt8)) ∧ w = w' := by
  go_enter Try.func41, Try.ntmps41
  go_wp2
  rw [run_callFunc_extern Try.func45 (by kernel_rfl) (by kernel_rfl) (by kernel_rfl) (e := Extern.BytealgIndexByte.indexByte) (by kernel_rfl), Lib.run_indexByteString]
  simp only [Result.andThen]
  rw [Oper.upon_value]
  go_wp2
  go_ret
  exact ⟨rfl, rfl⟩

theorem one47 : (⟨#[47]⟩ : ByteArray).toList = [47] := by rw [ByteArray.toList_eq]
set_option maxRecDepth 100000 in
set_option maxHeartbeats 400000 in
theorem index47_any (s : ByteArray) (w : World) :
    Calls Try.prog 40 #[.string s, .string ⟨#[47]⟩] w fun e w' => e = .returned (.int .i64 (Lib.indexByte s.data.toList 47)) ∧ w = w' := by
  by_cases h : (⟨#[47]⟩ : ByteArray) = s
  · subst h
    go_enter Try.func40, Try.ntmps40
    go_wp2
    go_ret
    exact ⟨rfl, rfl⟩
  · have t := str_ne h
    rw [one47] at t
    have HI := Lib.hid (fun w => indexByte_any s 47 w)
    clear h
    go_enter Try.func40, Try.ntmps40
    go_wp2_with fail
    refine (HI.out _).mono ?_
    rintro e w' ⟨rfl, rfl⟩
    go_wp2
    go_ret
    exact ⟨rfl, rfl⟩
set_option maxRecDepth 100000 in
set_option maxHeartbeats 400000 in
theorem contains47_any (s : ByteArray) (w : World) :
    Calls Try.prog 37 #[.string s, .string ⟨#[47]⟩] w fun e w' => e = .returned (.bool (decide (0 ≤ Lib.indexByte s.data.toList 47))) ∧ w = w' := by
  have HI := Lib.hid (fun w => index47_any s w)
  generalize Lib.indexByte s.data.toList 47 = k at HI ⊢
  have HX : ∀ w, Calls Try.prog 39 #[.string s, .string ⟨#[47]⟩] w fun e w' => e = .returned (.int .i64 k) ∧ w = w' := fun w => by
    go_enter Try.func39, Try.ntmps39
    go_wp2_with fail
    refine (HI.out _).mono ?_
    rintro e w' ⟨rfl, rfl⟩
    go_wp2
    go_ret
    exact ⟨rfl, rfl⟩
  have HX' := Lib.hid HX
  clear HX HI
  go_enter Try.func37, Try.ntmps37
  go_wp2_with fail
  refine (HX'.out _).mono ?_
  rintro e w' ⟨rfl, rfl⟩
  go_wp2
  go_ret
  exact ⟨rfl, rfl⟩

theorem one0 : (⟨#[0]⟩ : ByteArray).toList = [0] := by rw [ByteArray.toList_eq]
set_option maxRecDepth 100000 in
set_option maxHeartbeats 400000 in
theorem index0_any (s : ByteArray) (w : World) :
    Calls Try.prog 40 #[.string s, .string ⟨#[0]⟩] w fun e w' => e = .returned (.int .i64 (Lib.indexByte s.data.toList 0)) ∧ w = w' := by
  by_cases h : (⟨#[0]⟩ : ByteArray) = s
  · subst h
    go_enter Try.func40, Try.ntmps40
    go_wp2
    go_ret
    exact ⟨rfl, rfl⟩
  · have t := str_ne h
    rw [one0] at t
    have HI := Lib.hid (fun w => indexByte_any s 0 w)
    clear h
    go_enter Try.func40, Try.ntmps40
    go_wp2_with fail
    refine (HI.out _).mono ?_
    rintro e w' ⟨rfl, rfl⟩
    go_wp2
    go_ret
    exact ⟨rfl, rfl⟩
set_option maxRecDepth 100000 in
set_option maxHeartbeats 400000 in
theorem contains0_any (s : ByteArray) (w : World) :
    Calls Try.prog 37 #[.string s, .string ⟨#[0]⟩] w fun e w' => e = .returned (.bool (decide (0 ≤ Lib.indexByte s.data.toList 0))) ∧ w = w' := by
  have HI := Lib.hid (fun w => index0_any s w)
  generalize Lib.indexByte s.data.toList 0 = k at HI ⊢
  have HX : ∀ w, Calls Try.prog 39 #[.string s, .string ⟨#[0]⟩] w fun e w' => e = .returned (.int .i64 k) ∧ w = w' := fun w => by
    go_enter Try.func39, Try.ntmps39
    go_wp2_with fail
    refine (HI.out _).mono ?_
    rintro e w' ⟨rfl, rfl⟩
    go_wp2
    go_ret
    exact ⟨rfl, rfl⟩
  have HX' := Lib.hid HX
  clear HX HI
  go_enter Try.func37, Try.ntmps37
  go_wp2_with fail
  refine (HX'.out _).mono ?_
  rintro e w' ⟨rfl, rfl⟩
  go_wp2
  go_ret
  exact ⟨rfl, rfl⟩

/-- a name: neither too short nor too long, neither one byte 46 nor two, without bytes 47 and 0 -/
def Nm (s : ByteArray) : Prop := (1 ≤ s.size ∧ s.size ≤ 13) ∧ s ≠ ⟨#[46]⟩ ∧ s ≠ ⟨#[46, 46]⟩ ∧ Lib.indexByte s.data.toList 47 < 0 ∧ Lib.indexByte s.data.toList 0 < 0
instance (s : ByteArray) : Decidable (Nm s) := by unfold Nm; infer_instance
/-- what is told of a text: a name, or not -/
def nmE (s : ByteArray) : Int := if Nm s then 0 else 31
theorem nm_no {s : ByteArray} (h : ¬ Nm s) : nmE s = 31 := if_neg h
theorem nm_yes {s : ByteArray} (h : Nm s) : nmE s = 0 := if_pos h
theorem dot1 : (⟨#[46]⟩ : ByteArray).toList = [46] := by rw [ByteArray.toList_eq]
theorem dot2 : (⟨#[46, 46]⟩ : ByteArray).toList = [46, 46] := by rw [ByteArray.toList_eq]

set_option maxRecDepth 100000 in
set_option maxHeartbeats 400000 in
/-- whether a text is a name: the program's answer -/
theorem name_any (s : ByteArray) (w : World) :
    Calls Try.prog 27 #[.string s] w fun e w' => e = .returned (.int .i64 (nmE s)) ∧ w = w' := by
  have H47 := Lib.hid (fun w => contains47_any s w)
  have H0 := Lib.hid (fun w => contains0_any s w)
  have HV : Hid (Nm s ↔ (1 ≤ s.size ∧ s.size ≤ 13) ∧ s ≠ ⟨#[46]⟩ ∧ s ≠ ⟨#[46, 46]⟩ ∧ Lib.indexByte s.data.toList 47 < 0 ∧ Lib.indexByte s.data.toList 0 < 0) := Lib.hid Iff.rfl
  generalize Lib.indexByte s.data.toList 47 = i at H47 HV
  generalize Lib.indexByte s.data.toList 0 = j at H0 HV
  by_cases h1 : s.size < 1
  · have e := Lib.hid (nm_no (s := s) fun h => by have := HV.out.1 h; omega)
    have t1 : decide ((s.size : Int) < 1) = true := by simp; omega
    clear HV
    go_enter Try.func27, Try.ntmps27
    go_wp2
    go_ret
    exact ⟨sint e.out.symm, rfl⟩
  by_cases h2 : 13 < s.size
  · have e := Lib.hid (nm_no (s := s) fun h => by have := HV.out.1 h; omega)
    have t1 : decide ((s.size : Int) < 1) = false := by simp; omega
    have t2 : decide ((13 : Int) < (s.size : Int)) = true := by simp; omega
    clear HV
    go_enter Try.func27, Try.ntmps27
    go_wp2
    go_ret
    exact ⟨sint e.out.symm, rfl⟩
  have t1 : decide ((s.size : Int) < 1) = false := by simp; omega
  have t2 : decide ((13 : Int) < (s.size : Int)) = false := by simp; omega
  by_cases h3 : s = ⟨#[46]⟩
  · have e := Lib.hid (nm_no (s := s) fun h => (HV.out.1 h).2.1 h3)
    have t3 := str_eq h3
    rw [dot1] at t3
    clear HV h3
    go_enter Try.func27, Try.ntmps27
    go_wp2
    go_ret
    exact ⟨sint e.out.symm, rfl⟩
  have t3 := str_ne h3
  rw [dot1] at t3
  by_cases h4 : s = ⟨#[46, 46]⟩
  · have e := Lib.hid (nm_no (s := s) fun h => (HV.out.1 h).2.2.1 h4)
    have t4 := str_eq h4
    rw [dot2] at t4
    clear HV h3 h4
    go_enter Try.func27, Try.ntmps27
    go_wp2
    go_ret
    exact ⟨sint e.out.symm, rfl⟩
  have t4 := str_ne h4
  rw [dot2] at t4
  by_cases h5 : 0 ≤ i
  · have e := Lib.hid (nm_no (s := s) fun h => by have := (HV.out.1 h).2.2.2.1; omega)
    rw [decide_eq_true h5] at H47
    clear HV h3 h4 h5
    go_enter Try.func27, Try.ntmps27
    go_wp2_with fail
    refine (H47.out _).mono ?_
    rintro _ w' ⟨rfl, rfl⟩
    go_wp2
    go_ret
    exact ⟨sint e.out.symm, rfl⟩
  rw [decide_eq_false h5] at H47
  by_cases h6 : 0 ≤ j
  · have e := Lib.hid (nm_no (s := s) fun h => by have := (HV.out.1 h).2.2.2.2; omega)
    rw [decide_eq_true h6] at H0
    clear HV h3 h4 h5 h6
    go_enter Try.func27, Try.ntmps27
    go_wp2_with fail
    refine (H47.out _).mono ?_
    rintro _ w' ⟨rfl, rfl⟩
    go_wp2_with fail
    refine (H0.out _).mono ?_
    rintro _ w' ⟨rfl, rfl⟩
    go_wp2
    go_ret
    exact ⟨sint e.out.symm, rfl⟩
  · have e := Lib.hid (nm_yes (HV.out.2 ⟨⟨by omega, by omega⟩, h3, h4, by omega, by omega⟩))
    rw [decide_eq_false h6] at H0
    clear HV h3 h4 h5 h6
    go_enter Try.func27, Try.ntmps27
    go_wp2_with fail
    refine (H47.out _).mono ?_
    rintro _ w' ⟨rfl, rfl⟩
    go_wp2_with fail
    refine (H0.out _).mono ?_
    rintro _ w' ⟨rfl, rfl⟩
    go_wp2
    go_ret
    exact ⟨sint e.out.symm, rfl⟩

theorem indexByte_lt0 (l : List UInt8) (c : UInt8) : Lib.indexByte l c < 0 ↔ ∀ b ∈ l, b ≠ c := by
  induction l with
  | nil => simp [Lib.indexByte]
  | cons b r ih =>
    simp only [Lib.indexByte, List.mem_cons, forall_eq_or_imp]
    have hge := Lib.indexByte_ge r c
    by_cases e : b = c
    · subst e; simp
    · have e' : (b == c) = false := by simp [e]
      rw [e']
      simp only [Bool.false_eq_true, if_false]
      rw [← ih]
      by_cases h : Lib.indexByte r c = -1
      · simp [h, e]
      · have h' : (Lib.indexByte r c == -1) = false := by simp [h]
        rw [h']
        simp only [Bool.false_eq_true, if_false]
        constructor
        · intro g; omega
        · intro g; have := g.2; omega

end Go.Proofs.Ytbgimehbencdgaa
