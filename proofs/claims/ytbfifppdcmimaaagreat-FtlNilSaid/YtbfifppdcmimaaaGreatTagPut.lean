/-
  What the small calls of the tags answer (the program's and the document's): right tags, sizes, numbers in bytes, bytes held against one another.
-/
import Derived.Test.YtbfifppdcmimaaaGreatKA
import Derived.Test.YtbfifppdcmimaaaGreatTagMath
import Derived.Outline
namespace Go.Proofs.YtbfifppdcmimaaaGreat
open Go.RowKit Crcm Tagm Go.ChangeShapes

/-- a tag as it is handed over -/
def tg (k p s e : Int) : Value := .agg #[.int .i64 k, .int .u32 p, .int .u64 s, .int .u64 e]
/-- a number of 64 digits -/
def U64 (n : Int) : Prop := 0 ≤ n ∧ n < 18446744073709551616

set_option maxRecDepth 100000 in
theorem counted_any (n : Int) (w : World) :
    Calls Tryz.prog 108 #[.int .u64 n] w fun e w' => e = .returned (.bool (decide (1 ≤ n ∧ n < 4611686018427387904))) ∧ w = w' := by
  by_cases h1 : 1 ≤ n
  · go_enter Tryz.func108, Tryz.ntmps108
    go_wp2
    go_ret
    exact ⟨ret_bool (by simp [h1]), rfl⟩
  · have h2 : decide (1 ≤ n) = false := by simpa using h1
    go_enter Tryz.func108, Tryz.ntmps108
    go_wp2
    go_ret
    exact ⟨ret_bool (by simp), rfl⟩

theorem sized_any (n : Int) (w : World) :
    Calls Tryz.prog 50 #[.int .i64 n] w fun e w' => e = .returned (.bool (decide (Sz n))) ∧ w = w' := by
  by_cases h1 : n = 64
  · subst h1
    go_enter Tryz.func50, Tryz.ntmps50
    go_wp2
    go_ret
    exact ⟨ret_bool (by decide), rfl⟩
  · by_cases h2 : n = 128
    · subst h2
      go_enter Tryz.func50, Tryz.ntmps50
      go_wp2
      go_ret
      exact ⟨ret_bool (by decide), rfl⟩
    · by_cases h3 : n = 256
      · subst h3
        go_enter Tryz.func50, Tryz.ntmps50
        go_wp2
        go_ret
        exact ⟨ret_bool (by decide), rfl⟩
      · by_cases h4 : n = 512
        · subst h4
          go_enter Tryz.func50, Tryz.ntmps50
          go_wp2
          go_ret
          exact ⟨ret_bool (by decide), rfl⟩
        · have e1 : ((n : Int) == 64) = false := by simpa using h1
          have e2 : ((n : Int) == 128) = false := by simpa using h2
          have e3 : ((n : Int) == 256) = false := by simpa using h3
          have e4 : ((n : Int) == 512) = false := by simpa using h4
          have H := Lib.hid (And.intro h1 (And.intro h2 (And.intro h3 h4)))
          clear h1 h2 h3 h4
          go_enter Tryz.func50, Tryz.ntmps50
          go_wp2
          go_ret
          exact ⟨ret_bool (by have := H.out; symm; simp only [decide_eq_false_iff_not]; unfold Sz; omega), rfl⟩

/-- a number counts -/
def Ct (n : Int) : Prop := 1 ≤ n ∧ n < 4611686018427387904
instance (n : Int) : Decidable (Ct n) := by unfold Ct; infer_instance
theorem counted_yes (n : Int) (w : World) (h : Ct n) : Calls Tryz.prog 108 #[.int .u64 n] w fun e w' => e = .returned (.bool true) ∧ w = w' := by
  have := counted_any n w
  rwa [decide_eq_true (show 1 ≤ n ∧ n < 4611686018427387904 from h)] at this
theorem counted_no (n : Int) (w : World) (h : ¬ Ct n) : Calls Tryz.prog 108 #[.int .u64 n] w fun e w' => e = .returned (.bool false) ∧ w = w' := by
  have := counted_any n w
  rwa [decide_eq_false (show ¬ (1 ≤ n ∧ n < 4611686018427387904) from h)] at this
theorem Rt_iff (k p s e : Int) (hp : 0 ≤ p) : Rt k p s e ↔ (k = 1 ∨ k = 2) ∧ p < 8192 ∧ Ct s ∧ Ct e := by unfold Rt Ct; omega

set_option maxHeartbeats 400000 in
theorem right_kind (k p s e : Int) (w : World) (hp : 0 ≤ p) (hk : k = 1 ∨ k = 2) :
    Calls Tryz.prog 73 #[tg k p s e] w fun r w' => r = .returned (.bool (decide (Rt k p s e))) ∧ Below w.heap.size w w' := by
  have H := Lib.hid (Rt_iff k p s e hp)
  unfold tg
  by_cases h2 : p < 8192
  · by_cases h3 : Ct s
    · have H3 := Lib.hid h3
      have C3 := Lib.hid (fun w => counted_yes s w h3)
      by_cases h4 : Ct e
      · have H4 := Lib.hid h4
        have C4 := Lib.hid (fun w => counted_yes e w h4)
        clear h3 h4
        rcases hk with rfl | rfl
        all_goals
          go_enter Tryz.func73, Tryz.ntmps73
          go_wp2_with fail
          refine (C3.out _).mono ?_
          rintro r w' ⟨rfl, rfl⟩
          go_wp2_with fail
          refine (C4.out _).mono ?_
          rintro r w' ⟨rfl, rfl⟩
          go_wp2
          go_ret
          exact ⟨ret_bool (by symm; rw [decide_eq_true_iff, H.out]; exact ⟨by simp, h2, H3.out, H4.out⟩), (Below.refl _ _).alloc (Nat.le_refl _) _⟩
      · have H4 := Lib.hid h4
        have C4 := Lib.hid (fun w => counted_no e w h4)
        clear h3 h4
        rcases hk with rfl | rfl
        all_goals
          go_enter Tryz.func73, Tryz.ntmps73
          go_wp2_with fail
          refine (C3.out _).mono ?_
          rintro r w' ⟨rfl, rfl⟩
          go_wp2_with fail
          refine (C4.out _).mono ?_
          rintro r w' ⟨rfl, rfl⟩
          go_wp2
          go_ret
          exact ⟨ret_bool (by symm; rw [decide_eq_false_iff_not, H.out]; exact fun h => H4.out h.2.2.2), (Below.refl _ _).alloc (Nat.le_refl _) _⟩
    · have H3 := Lib.hid h3
      have C3 := Lib.hid (fun w => counted_no s w h3)
      clear h3
      rcases hk with rfl | rfl
      all_goals
        go_enter Tryz.func73, Tryz.ntmps73
        go_wp2_with fail
        refine (C3.out _).mono ?_
        rintro r w' ⟨rfl, rfl⟩
        go_wp2
        go_ret
        exact ⟨ret_bool (by symm; rw [decide_eq_false_iff_not, H.out]; exact fun h => H3.out h.2.2.1), (Below.refl _ _).alloc (Nat.le_refl _) _⟩
  · have g2 : decide (p < 8192) = false := by simpa using h2
    rcases hk with rfl | rfl
    all_goals
      go_enter Tryz.func73, Tryz.ntmps73
      go_wp2
      go_ret
      exact ⟨ret_bool (by symm; rw [decide_eq_false_iff_not, H.out]; exact fun h => by have := h.2.1; omega), (Below.refl _ _).alloc (Nat.le_refl _) _⟩

theorem tright_any (k p s e : Int) (w : World) (hp : 0 ≤ p) :
    Calls Tryz.prog 73 #[tg k p s e] w fun r w' => r = .returned (.bool (decide (Rt k p s e))) ∧ Below w.heap.size w w' := by
  by_cases hk : k = 1 ∨ k = 2
  · exact right_kind k p s e w hp hk
  · have H := Lib.hid (Rt_iff k p s e hp)
    have K := Lib.hid hk
    have e1 : ((k : Int) == 1) = false := by simp; omega
    have e2 : ((k : Int) == 2) = false := by simp; omega
    clear hk
    unfold tg
    go_enter Tryz.func73, Tryz.ntmps73
    go_wp2
    go_ret
    exact ⟨ret_bool (by symm; rw [decide_eq_false_iff_not, H.out]; exact fun h => K.out h.1), (Below.refl _ _).alloc (Nat.le_refl _) _⟩

/-- the other form of the same tests -/
theorem Rt_iff' (k p s e : Int) (hp : 0 ≤ p) : Rt k p s e ↔ (k = 1 ∨ k = 2) ∧ ¬ 8191 < p ∧ (0 < s ∧ s ≤ 4611686018427387903) ∧ (0 < e ∧ e ≤ 4611686018427387903) := by unfold Rt; omega
/-- a number behind a name -/
def Big62 (n : Int) : Prop := n ≤ 4611686018427387903

end Go.Proofs.YtbfifppdcmimaaaGreat
