/-
  A part over a name: the document's Part.
-/
import Derived.Test.YtaielamimkigmaaGlobMtR
import Derived.Test.YtaielamimkigmaaGlobKn
namespace Go.Proofs.Ytaielamimkigmaa
open Go.RowKit Go.ChangeShapes Globm Go.ChangeMaps

theorem isAny_toList (s : ByteArray) : (s.toList == [42, 42]) = isAny s := by
  rw [Bool.eq_iff_iff]
  constructor
  · intro h
    rw [beq_iff_eq, ByteArray.toList_eq] at h
    obtain ⟨⟨l⟩⟩ := s
    have h : l = [42, 42] := h
    subst h; decide +kernel
  · intro h
    rw [any_text h]; decide +kernel

set_option maxRecDepth 100000 in
set_option maxHeartbeats 4000000 in
theorem rpart_any (s n : ByteArray) (w : World) (hn : n.size ≤ 1000) :
    Calls Try.prog 11 #[.string s, .string n] w fun e w' => e = .returned (.tuple #[.bool (ptR s n).1, .int .i64 (ptR s n).2]) ∧ Below w.heap.size w w' := by
  have HM := Lib.hid (marks_any s w)
  have tA := isAny_toList s
  unfold ptR
  rcases hm : marks (by8 s) with _ | l
  · rw [hm] at HM
    simp only [mkV] at HM
    clear hm tA
    go_enter Try.func11, Try.ntmps11
    go_wp2_with fail
    refine HM.out.mono ?_
    rintro e w2 ⟨⟨v, rfl, rfl⟩, hb⟩
    have HB := Lib.hid hb
    clear hb
    go_wp2_with fail
    go_ret2
    exact ⟨rfl, HB.out⟩
  · rw [hm] at HM
    simp only [mkV] at HM
    show Calls _ _ _ _ fun e w' => e = .returned (.tuple #[.bool (if isAny s then ((false, 31) : Bool × Int) else _).1, .int .i64 (if isAny s then ((false, 31) : Bool × Int) else _).2]) ∧ _
    cases hA : isAny s with
    | true =>
      rw [hA] at tA
      clear hm hA
      go_enter Try.func11, Try.ntmps11
      go_wp2_with fail
      refine HM.out.mono ?_
      rintro e w2 ⟨⟨v, rfl, A, cap, rfl, ho, hz⟩, hb⟩
      have HB := Lib.hid hb
      clear hb ho hz
      go_wp2_with fail
      go_ret2
      exact ⟨rfl, HB.out⟩
    | false =>
      rw [hA] at tA
      clear hm hA
      go_enter Try.func11, Try.ntmps11
      go_wp2_with fail
      refine HM.out.mono ?_
      rintro e w2 ⟨⟨v, rfl, A, cap, rfl, ho, hz⟩, hb⟩
      have HB := Lib.hid hb
      have HT := Lib.hid (matchesR_any l A l.length cap n w2 (RM.of_own ho) rfl (by omega) hn)
      clear hb ho hz
      go_wp2_with fail
      refine HT.out.mono ?_
      rintro e w3 ⟨rfl, hb3⟩
      go_wp2
      go_ret2
      exact ⟨rfl, gbonq HB.out hb3⟩
end Go.Proofs.Ytaielamimkigmaa
