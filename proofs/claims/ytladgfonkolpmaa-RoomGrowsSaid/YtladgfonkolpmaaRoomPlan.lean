/-
  How room is shared out: the program's answer and the document's. Nothing of one statement alone stands here.
-/
import Derived.Test.YtladgfonkolpmaaRoomFile
namespace Roomm
open Crcm Tagm Inom
/-- pages for the table -/
def tb (c : Int) : Int := if 112 ≤ c then (c - 64) / 16 else 2
/-- the error of a plan -/
def plE (s c : Int) : Int := if Sz s ∧ 0 ≤ c ∧ c ≤ 8192 then (if c - 64 - tb c < 16 then 40 else 0) else 1
def p0 (s c : Int) : Int := if plE s c = 0 then tb c else 0
def p1 (s c : Int) : Int := if plE s c = 0 then tb c + 1 else 0
def p2 (s c : Int) : Int := if plE s c = 0 then c - 64 - tb c else 0
def p3 (s c : Int) : Int := if plE s c = 0 then tb c * (s / 24) else 0
theorem plE_no {s c : Int} (h : ¬ (Sz s ∧ 0 ≤ c ∧ c ≤ 8192)) : plE s c = 1 := if_neg h
theorem plE_full {s c : Int} (h : Sz s ∧ 0 ≤ c ∧ c ≤ 8192) (h2 : c - 64 - tb c < 16) : plE s c = 40 := by unfold plE; rw [if_pos h, if_pos h2]
theorem plE_ok {s c : Int} (h : Sz s ∧ 0 ≤ c ∧ c ≤ 8192) (h2 : ¬ c - 64 - tb c < 16) : plE s c = 0 := by unfold plE; rw [if_pos h, if_neg h2]
end Roomm
namespace Go.Proofs.Ytladgfonkolpmaa
open Go.RowKit Crcm Tagm Inom Roomm Go.ChangeShapes Go.Maps

/-- a layout, by value -/
def ly (a b c d : Int) : Value := .agg #[.int .i64 a, .int .i64 b, .int .i64 c, .int .i64 d]
def plan (s c : Int) : Value := ly (p0 s c) (p1 s c) (p2 s c) (p3 s c)
theorem plan_bad {s c : Int} (h : plE s c ≠ 0) : plan s c = ly 0 0 0 0 := by unfold plan p0 p1 p2 p3; rw [if_neg h, if_neg h, if_neg h, if_neg h]
theorem plan_ok {s c : Int} (h : plE s c = 0) : plan s c = ly (tb c) (tb c + 1) (c - 64 - tb c) (tb c * (s / 24)) := by unfold plan p0 p1 p2 p3; rw [if_pos h, if_pos h, if_pos h, if_pos h]

set_option maxRecDepth 100000 in
set_option maxHeartbeats 2000000 in
theorem plan_any (s c : Int) (w : World) : Calls Try.prog 21 #[.int .i64 s, .int .i64 c] w fun e w' => e = .returned (.tuple #[plan s c, .int .i64 (plE s c)]) ∧ Below w.heap.size w w' := by
  by_cases h : Sz s ∧ 0 ≤ c ∧ c ≤ 8192
  · have HS := Lib.hid (fun w => rsized_any s w)
    rw [decide_eq_true h.1] at HS
    have HP := Lib.hid (fun w => per_any s w)
    rw [per_yes h.1] at HP
    obtain ⟨h0, h1, h2⟩ := h
    by_cases hc : 112 ≤ c
    · have ht : tb c = (c - 64) / 16 := if_pos hc
      have hE : plE s c = 0 := plE_ok ⟨h0, h1, h2⟩ (by omega)
      rw [plan_ok hE, hE, ht]
      unfold ly
      have hb : 3 ≤ (c - 64) / 16 ∧ (c - 64) / 16 ≤ 508 := by omega
      obtain ⟨b0, b1⟩ := hb
      clear ht hE
      generalize hq : (c - 64) / 16 = q at b0 b1 ⊢
      rcases h0 with rfl | rfl | rfl | rfl
      · simp only [Int.reduceDiv] at HP
        simp only [Int.reduceDiv]
        go_enter Try.func21, Try.ntmps21
        go_wp2_with fail
        refine (HS.out _).mono ?_
        rintro e w' ⟨rfl, rfl⟩
        go_wp2_with fail
        refine (HP.out _).mono ?_
        rintro e w' ⟨rfl, rfl⟩
        go_wp2
        exact bodyPost_ret (v := .tuple #[.agg #[.int .i64 q, .int .i64 (q + 1), .int .i64 (c - 64 - q), .int .i64 (q * 2)], .int .i64 0]) (by simp [results, Try.results21, go_sem]) rfl ⟨rfl, by first | exact Below.refl _ _ | exact (Below.refl _ _).alloc (Nat.le_refl _) _⟩
      · simp only [Int.reduceDiv] at HP
        simp only [Int.reduceDiv]
        go_enter Try.func21, Try.ntmps21
        go_wp2_with fail
        refine (HS.out _).mono ?_
        rintro e w' ⟨rfl, rfl⟩
        go_wp2_with fail
        refine (HP.out _).mono ?_
        rintro e w' ⟨rfl, rfl⟩
        go_wp2
        exact bodyPost_ret (v := .tuple #[.agg #[.int .i64 q, .int .i64 (q + 1), .int .i64 (c - 64 - q), .int .i64 (q * 5)], .int .i64 0]) (by simp [results, Try.results21, go_sem]) rfl ⟨rfl, by first | exact Below.refl _ _ | exact (Below.refl _ _).alloc (Nat.le_refl _) _⟩
      · simp only [Int.reduceDiv] at HP
        simp only [Int.reduceDiv]
        go_enter Try.func21, Try.ntmps21
        go_wp2_with fail
        refine (HS.out _).mono ?_
        rintro e w' ⟨rfl, rfl⟩
        go_wp2_with fail
        refine (HP.out _).mono ?_
        rintro e w' ⟨rfl, rfl⟩
        go_wp2
        exact bodyPost_ret (v := .tuple #[.agg #[.int .i64 q, .int .i64 (q + 1), .int .i64 (c - 64 - q), .int .i64 (q * 10)], .int .i64 0]) (by simp [results, Try.results21, go_sem]) rfl ⟨rfl, by first | exact Below.refl _ _ | exact (Below.refl _ _).alloc (Nat.le_refl _) _⟩
      · simp only [Int.reduceDiv] at HP
        simp only [Int.reduceDiv]
        go_enter Try.func21, Try.ntmps21
        go_wp2_with fail
        refine (HS.out _).mono ?_
        rintro e w' ⟨rfl, rfl⟩
        go_wp2_with fail
        refine (HP.out _).mono ?_
        rintro e w' ⟨rfl, rfl⟩
        go_wp2
        exact bodyPost_ret (v := .tuple #[.agg #[.int .i64 q, .int .i64 (q + 1), .int .i64 (c - 64 - q), .int .i64 (q * 21)], .int .i64 0]) (by simp [results, Try.results21, go_sem]) rfl ⟨rfl, by first | exact Below.refl _ _ | exact (Below.refl _ _).alloc (Nat.le_refl _) _⟩
    · have ht : tb c = 2 := if_neg hc
      by_cases hf : c - 64 - 2 < 16
      · have hE : plE s c = 40 := plE_full ⟨h0, h1, h2⟩ (by rw [ht]; exact hf)
        rw [plan_bad (by rw [hE]; decide), hE]
        unfold ly
        clear ht hE
        by_cases h64 : c < 64
        · have hq : (c - 64).tdiv 16 ≤ 0 := by
            have : (c - 64).tdiv 16 = - ((64 - c).tdiv 16) := by rw [← Int.neg_tdiv]; congr 1; omega
            rw [this]
            have := Int.tdiv_nonneg (a := 64 - c) (b := 16) (by omega) (by omega)
            omega
          have hq2 : (c - 64).tdiv 16 < 2 := by omega
          go_enter Try.func21, Try.ntmps21
          go_wp2_with fail
          refine (HS.out _).mono ?_
          rintro e w' ⟨rfl, rfl⟩
          go_wp2
          exact bodyPost_ret (v := .tuple #[.agg #[.int .i64 0, .int .i64 0, .int .i64 0, .int .i64 0], .int .i64 40]) (by simp [results, Try.results21, go_sem]) rfl ⟨rfl, by first | exact Below.refl _ _ | exact (Below.refl _ _).alloc (Nat.le_refl _) _⟩
        · by_cases h65 : c = 64
          · subst h65
            go_enter Try.func21, Try.ntmps21
            go_wp2_with fail
            refine (HS.out _).mono ?_
            rintro e w' ⟨rfl, rfl⟩
            go_wp2
            exact bodyPost_ret (v := .tuple #[.agg #[.int .i64 0, .int .i64 0, .int .i64 0, .int .i64 0], .int .i64 40]) (by simp [results, Try.results21, go_sem]) rfl ⟨rfl, by first | exact Below.refl _ _ | exact (Below.refl _ _).alloc (Nat.le_refl _) _⟩
          · have h66 : 64 < c := by omega
            have hq : (c - 64) / 16 ≤ 1 := by omega
            have hq0 : 0 ≤ (c - 64) / 16 := by omega
            have hq2 : (c - 64) / 16 < 2 := by omega
            go_enter Try.func21, Try.ntmps21
            go_wp2_with fail
            refine (HS.out _).mono ?_
            rintro e w' ⟨rfl, rfl⟩
            go_wp2
            exact bodyPost_ret (v := .tuple #[.agg #[.int .i64 0, .int .i64 0, .int .i64 0, .int .i64 0], .int .i64 40]) (by simp [results, Try.results21, go_sem]) rfl ⟨rfl, by first | exact Below.refl _ _ | exact (Below.refl _ _).alloc (Nat.le_refl _) _⟩
      · have hE : plE s c = 0 := plE_ok ⟨h0, h1, h2⟩ (by rw [ht]; exact hf)
        rw [plan_ok hE, hE, ht]
        unfold ly
        clear ht hE
        have hq : (c - 64) / 16 ≤ 2 := by omega
        have hq0 : 0 ≤ (c - 64) / 16 := by omega
        by_cases hq2 : (c - 64) / 16 < 2
        · rcases h0 with rfl | rfl | rfl | rfl
          · simp only [Int.reduceDiv] at HP
            simp only [Int.reduceDiv, Int.reduceMul, Int.reduceAdd]
            go_enter Try.func21, Try.ntmps21
            go_wp2_with fail
            refine (HS.out _).mono ?_
            rintro e w' ⟨rfl, rfl⟩
            go_wp2_with fail
            refine (HP.out _).mono ?_
            rintro e w' ⟨rfl, rfl⟩
            go_wp2
            exact bodyPost_ret (v := .tuple #[.agg #[.int .i64 2, .int .i64 3, .int .i64 (c - 64 - 2), .int .i64 4], .int .i64 0]) (by simp [results, Try.results21, go_sem]) rfl ⟨rfl, by first | exact Below.refl _ _ | exact (Below.refl _ _).alloc (Nat.le_refl _) _⟩
          · simp only [Int.reduceDiv] at HP
            simp only [Int.reduceDiv, Int.reduceMul, Int.reduceAdd]
            go_enter Try.func21, Try.ntmps21
            go_wp2_with fail
            refine (HS.out _).mono ?_
            rintro e w' ⟨rfl, rfl⟩
            go_wp2_with fail
            refine (HP.out _).mono ?_
            rintro e w' ⟨rfl, rfl⟩
            go_wp2
            exact bodyPost_ret (v := .tuple #[.agg #[.int .i64 2, .int .i64 3, .int .i64 (c - 64 - 2), .int .i64 10], .int .i64 0]) (by simp [results, Try.results21, go_sem]) rfl ⟨rfl, by first | exact Below.refl _ _ | exact (Below.refl _ _).alloc (Nat.le_refl _) _⟩
          · simp only [Int.reduceDiv] at HP
            simp only [Int.reduceDiv, Int.reduceMul, Int.reduceAdd]
            go_enter Try.func21, Try.ntmps21
            go_wp2_with fail
            refine (HS.out _).mono ?_
            rintro e w' ⟨rfl, rfl⟩
            go_wp2_with fail
            refine (HP.out _).mono ?_
            rintro e w' ⟨rfl, rfl⟩
            go_wp2
            exact bodyPost_ret (v := .tuple #[.agg #[.int .i64 2, .int .i64 3, .int .i64 (c - 64 - 2), .int .i64 20], .int .i64 0]) (by simp [results, Try.results21, go_sem]) rfl ⟨rfl, by first | exact Below.refl _ _ | exact (Below.refl _ _).alloc (Nat.le_refl _) _⟩
          · simp only [Int.reduceDiv] at HP
            simp only [Int.reduceDiv, Int.reduceMul, Int.reduceAdd]
            go_enter Try.func21, Try.ntmps21
            go_wp2_with fail
            refine (HS.out _).mono ?_
            rintro e w' ⟨rfl, rfl⟩
            go_wp2_with fail
            refine (HP.out _).mono ?_
            rintro e w' ⟨rfl, rfl⟩
            go_wp2
            exact bodyPost_ret (v := .tuple #[.agg #[.int .i64 2, .int .i64 3, .int .i64 (c - 64 - 2), .int .i64 42], .int .i64 0]) (by simp [results, Try.results21, go_sem]) rfl ⟨rfl, by first | exact Below.refl _ _ | exact (Below.refl _ _).alloc (Nat.le_refl _) _⟩
        · have hq3 : (c - 64) / 16 = 2 := by omega
          rcases h0 with rfl | rfl | rfl | rfl
          · simp only [Int.reduceDiv] at HP
            simp only [Int.reduceDiv, Int.reduceMul, Int.reduceAdd]
            go_enter Try.func21, Try.ntmps21
            go_wp2_with fail
            refine (HS.out _).mono ?_
            rintro e w' ⟨rfl, rfl⟩
            go_wp2_with fail
            refine (HP.out _).mono ?_
            rintro e w' ⟨rfl, rfl⟩
            go_wp2
            exact bodyPost_ret (v := .tuple #[.agg #[.int .i64 2, .int .i64 3, .int .i64 (c - 64 - 2), .int .i64 4], .int .i64 0]) (by simp [results, Try.results21, go_sem]) rfl ⟨rfl, by first | exact Below.refl _ _ | exact (Below.refl _ _).alloc (Nat.le_refl _) _⟩
          · simp only [Int.reduceDiv] at HP
            simp only [Int.reduceDiv, Int.reduceMul, Int.reduceAdd]
            go_enter Try.func21, Try.ntmps21
            go_wp2_with fail
            refine (HS.out _).mono ?_
            rintro e w' ⟨rfl, rfl⟩
            go_wp2_with fail
            refine (HP.out _).mono ?_
            rintro e w' ⟨rfl, rfl⟩
            go_wp2
            exact bodyPost_ret (v := .tuple #[.agg #[.int .i64 2, .int .i64 3, .int .i64 (c - 64 - 2), .int .i64 10], .int .i64 0]) (by simp [results, Try.results21, go_sem]) rfl ⟨rfl, by first | exact Below.refl _ _ | exact (Below.refl _ _).alloc (Nat.le_refl _) _⟩
          · simp only [Int.reduceDiv] at HP
            simp only [Int.reduceDiv, Int.reduceMul, Int.reduceAdd]
            go_enter Try.func21, Try.ntmps21
            go_wp2_with fail
            refine (HS.out _).mono ?_
            rintro e w' ⟨rfl, rfl⟩
            go_wp2_with fail
            refine (HP.out _).mono ?_
            rintro e w' ⟨rfl, rfl⟩
            go_wp2
            exact bodyPost_ret (v := .tuple #[.agg #[.int .i64 2, .int .i64 3, .int .i64 (c - 64 - 2), .int .i64 20], .int .i64 0]) (by simp [results, Try.results21, go_sem]) rfl ⟨rfl, by first | exact Below.refl _ _ | exact (Below.refl _ _).alloc (Nat.le_refl _) _⟩
          · simp only [Int.reduceDiv] at HP
            simp only [Int.reduceDiv, Int.reduceMul, Int.reduceAdd]
            go_enter Try.func21, Try.ntmps21
            go_wp2_with fail
            refine (HS.out _).mono ?_
            rintro e w' ⟨rfl, rfl⟩
            go_wp2_with fail
            refine (HP.out _).mono ?_
            rintro e w' ⟨rfl, rfl⟩
            go_wp2
            exact bodyPost_ret (v := .tuple #[.agg #[.int .i64 2, .int .i64 3, .int .i64 (c - 64 - 2), .int .i64 42], .int .i64 0]) (by simp [results, Try.results21, go_sem]) rfl ⟨rfl, by first | exact Below.refl _ _ | exact (Below.refl _ _).alloc (Nat.le_refl _) _⟩
  · have hE := plE_no h
    rw [plan_bad (by rw [hE]; decide), hE]
    unfold ly
    clear hE
    by_cases hs : Sz s
    · have HS := Lib.hid (fun w => rsized_any s w)
      rw [decide_eq_true hs] at HS
      have hn : c < 0 ∨ 8192 < c := by
        by_cases h0 : c < 0
        · exact .inl h0
        · by_cases h1 : 8192 < c
          · exact .inr h1
          · exact absurd ⟨hs, by omega, by omega⟩ h
      clear h hs
      rcases hn with hn | hn
      · go_enter Try.func21, Try.ntmps21
        go_wp2_with fail
        refine (HS.out _).mono ?_
        rintro e w' ⟨rfl, rfl⟩
        go_wp2
        exact bodyPost_ret (v := .tuple #[.agg #[.int .i64 0, .int .i64 0, .int .i64 0, .int .i64 0], .int .i64 1]) (by simp [results, Try.results21, go_sem]) rfl ⟨rfl, by first | exact Below.refl _ _ | exact (Below.refl _ _).alloc (Nat.le_refl _) _⟩
      · have hn0 : ¬ c < 0 := by omega
        go_enter Try.func21, Try.ntmps21
        go_wp2_with fail
        refine (HS.out _).mono ?_
        rintro e w' ⟨rfl, rfl⟩
        go_wp2
        exact bodyPost_ret (v := .tuple #[.agg #[.int .i64 0, .int .i64 0, .int .i64 0, .int .i64 0], .int .i64 1]) (by simp [results, Try.results21, go_sem]) rfl ⟨rfl, by first | exact Below.refl _ _ | exact (Below.refl _ _).alloc (Nat.le_refl _) _⟩
    · have HS := Lib.hid (fun w => rsized_any s w)
      rw [decide_eq_false hs] at HS
      clear h hs
      go_enter Try.func21, Try.ntmps21
      go_wp2_with fail
      refine (HS.out _).mono ?_
      rintro e w' ⟨rfl, rfl⟩
      go_wp2
      exact bodyPost_ret (v := .tuple #[.agg #[.int .i64 0, .int .i64 0, .int .i64 0, .int .i64 0], .int .i64 1]) (by simp [results, Try.results21, go_sem]) rfl ⟨rfl, by first | exact Below.refl _ _ | exact (Below.refl _ _).alloc (Nat.le_refl _) _⟩

set_option maxRecDepth 100000 in
set_option maxHeartbeats 2000000 in
theorem refplan_any (s c : Int) (w : World) : Calls Try.prog 22 #[.int .i64 s, .int .i64 c] w fun e w' => e = .returned (.tuple #[plan s c, .int .i64 (plE s c)]) ∧ Below w.heap.size w w' := by
  by_cases h : Sz s ∧ 0 ≤ c ∧ c ≤ 8192
  · have HS := Lib.hid (fun w => irefsized_yes s w h.1)
    obtain ⟨h0, h1, h2⟩ := h
    by_cases hc : 112 ≤ c
    · have ht : tb c = (c - 64) / 16 := if_pos hc
      have hE : plE s c = 0 := plE_ok ⟨h0, h1, h2⟩ (by omega)
      rw [plan_ok hE, hE, ht]
      unfold ly
      have hb : 3 ≤ (c - 64) / 16 ∧ (c - 64) / 16 ≤ 508 := by omega
      obtain ⟨b0, b1⟩ := hb
      clear ht hE
      generalize hq : (c - 64) / 16 = q at b0 b1 ⊢
      rcases h0 with rfl | rfl | rfl | rfl
      · simp only [Int.reduceDiv]
        go_enter Try.func22, Try.ntmps22
        go_wp2_with fail
        refine (HS.out _).mono ?_
        rintro e w' ⟨rfl, rfl⟩
        go_wp2
        exact bodyPost_ret (v := .tuple #[.agg #[.int .i64 q, .int .i64 (q + 1), .int .i64 (c - 64 - q), .int .i64 (q * 2)], .int .i64 0]) (by simp [results, Try.results22, go_sem]) rfl ⟨rfl, by first | exact Below.refl _ _ | exact (Below.refl _ _).alloc (Nat.le_refl _) _⟩
      · simp only [Int.reduceDiv]
        go_enter Try.func22, Try.ntmps22
        go_wp2_with fail
        refine (HS.out _).mono ?_
        rintro e w' ⟨rfl, rfl⟩
        go_wp2
        exact bodyPost_ret (v := .tuple #[.agg #[.int .i64 q, .int .i64 (q + 1), .int .i64 (c - 64 - q), .int .i64 (q * 5)], .int .i64 0]) (by simp [results, Try.results22, go_sem]) rfl ⟨rfl, by first | exact Below.refl _ _ | exact (Below.refl _ _).alloc (Nat.le_refl _) _⟩
      · simp only [Int.reduceDiv]
        go_enter Try.func22, Try.ntmps22
        go_wp2_with fail
        refine (HS.out _).mono ?_
        rintro e w' ⟨rfl, rfl⟩
        go_wp2
        exact bodyPost_ret (v := .tuple #[.agg #[.int .i64 q, .int .i64 (q + 1), .int .i64 (c - 64 - q), .int .i64 (q * 10)], .int .i64 0]) (by simp [results, Try.results22, go_sem]) rfl ⟨rfl, by first | exact Below.refl _ _ | exact (Below.refl _ _).alloc (Nat.le_refl _) _⟩
      · simp only [Int.reduceDiv]
        go_enter Try.func22, Try.ntmps22
        go_wp2_with fail
        refine (HS.out _).mono ?_
        rintro e w' ⟨rfl, rfl⟩
        go_wp2
        exact bodyPost_ret (v := .tuple #[.agg #[.int .i64 q, .int .i64 (q + 1), .int .i64 (c - 64 - q), .int .i64 (q * 21)], .int .i64 0]) (by simp [results, Try.results22, go_sem]) rfl ⟨rfl, by first | exact Below.refl _ _ | exact (Below.refl _ _).alloc (Nat.le_refl _) _⟩
    · have ht : tb c = 2 := if_neg hc
      by_cases hf : c - 64 - 2 < 16
      · have hE : plE s c = 40 := plE_full ⟨h0, h1, h2⟩ (by rw [ht]; exact hf)
        rw [plan_bad (by rw [hE]; decide), hE]
        unfold ly
        clear ht hE
        by_cases h64 : c < 64
        · have hq : (c - 64).tdiv 16 ≤ 0 := by
            have : (c - 64).tdiv 16 = - ((64 - c).tdiv 16) := by rw [← Int.neg_tdiv]; congr 1; omega
            rw [this]
            have := Int.tdiv_nonneg (a := 64 - c) (b := 16) (by omega) (by omega)
            omega
          have hq2 : (c - 64).tdiv 16 < 2 := by omega
          go_enter Try.func22, Try.ntmps22
          go_wp2_with fail
          refine (HS.out _).mono ?_
          rintro e w' ⟨rfl, rfl⟩
          go_wp2
          exact bodyPost_ret (v := .tuple #[.agg #[.int .i64 0, .int .i64 0, .int .i64 0, .int .i64 0], .int .i64 40]) (by simp [results, Try.results22, go_sem]) rfl ⟨rfl, by first | exact Below.refl _ _ | exact (Below.refl _ _).alloc (Nat.le_refl _) _⟩
        · by_cases h65 : c = 64
          · subst h65
            go_enter Try.func22, Try.ntmps22
            go_wp2_with fail
            refine (HS.out _).mono ?_
            rintro e w' ⟨rfl, rfl⟩
            go_wp2
            exact bodyPost_ret (v := .tuple #[.agg #[.int .i64 0, .int .i64 0, .int .i64 0, .int .i64 0], .int .i64 40]) (by simp [results, Try.results22, go_sem]) rfl ⟨rfl, by first | exact Below.refl _ _ | exact (Below.refl _ _).alloc (Nat.le_refl _) _⟩
          · have h66 : 64 < c := by omega
            have hq : (c - 64) / 16 ≤ 1 := by omega
            have hq0 : 0 ≤ (c - 64) / 16 := by omega
            have hq2 : (c - 64) / 16 < 2 := by omega
            go_enter Try.func22, Try.ntmps22
            go_wp2_with fail
            refine (HS.out _).mono ?_
            rintro e w' ⟨rfl, rfl⟩
            go_wp2
            exact bodyPost_ret (v := .tuple #[.agg #[.int .i64 0, .int .i64 0, .int .i64 0, .int .i64 0], .int .i64 40]) (by simp [results, Try.results22, go_sem]) rfl ⟨rfl, by first | exact Below.refl _ _ | exact (Below.refl _ _).alloc (Nat.le_refl _) _⟩
      · have hE : plE s c = 0 := plE_ok ⟨h0, h1, h2⟩ (by rw [ht]; exact hf)
        rw [plan_ok hE, hE, ht]
        unfold ly
        clear ht hE
        have hq : (c - 64) / 16 ≤ 2 := by omega
        have hq0 : 0 ≤ (c - 64) / 16 := by omega
        rcases h0 with rfl | rfl | rfl | rfl
        · simp only [Int.reduceDiv, Int.reduceMul, Int.reduceAdd]
          go_enter Try.func22, Try.ntmps22
          go_wp2_with fail
          refine (HS.out _).mono ?_
          rintro e w' ⟨rfl, rfl⟩
          go_wp2
          exact bodyPost_ret (v := .tuple #[.agg #[.int .i64 2, .int .i64 3, .int .i64 (c - 64 - 2), .int .i64 4], .int .i64 0]) (by simp [results, Try.results22, go_sem]) rfl ⟨rfl, by first | exact Below.refl _ _ | exact (Below.refl _ _).alloc (Nat.le_refl _) _⟩
        · simp only [Int.reduceDiv, Int.reduceMul, Int.reduceAdd]
          go_enter Try.func22, Try.ntmps22
          go_wp2_with fail
          refine (HS.out _).mono ?_
          rintro e w' ⟨rfl, rfl⟩
          go_wp2
          exact bodyPost_ret (v := .tuple #[.agg #[.int .i64 2, .int .i64 3, .int .i64 (c - 64 - 2), .int .i64 10], .int .i64 0]) (by simp [results, Try.results22, go_sem]) rfl ⟨rfl, by first | exact Below.refl _ _ | exact (Below.refl _ _).alloc (Nat.le_refl _) _⟩
        · simp only [Int.reduceDiv, Int.reduceMul, Int.reduceAdd]
          go_enter Try.func22, Try.ntmps22
          go_wp2_with fail
          refine (HS.out _).mono ?_
          rintro e w' ⟨rfl, rfl⟩
          go_wp2
          exact bodyPost_ret (v := .tuple #[.agg #[.int .i64 2, .int .i64 3, .int .i64 (c - 64 - 2), .int .i64 20], .int .i64 0]) (by simp [results, Try.results22, go_sem]) rfl ⟨rfl, by first | exact Below.refl _ _ | exact (Below.refl _ _).alloc (Nat.le_refl _) _⟩
        · simp only [Int.reduceDiv, Int.reduceMul, Int.reduceAdd]
          go_enter Try.func22, Try.ntmps22
          go_wp2_with fail
          refine (HS.out _).mono ?_
          rintro e w' ⟨rfl, rfl⟩
          go_wp2
          exact bodyPost_ret (v := .tuple #[.agg #[.int .i64 2, .int .i64 3, .int .i64 (c - 64 - 2), .int .i64 42], .int .i64 0]) (by simp [results, Try.results22, go_sem]) rfl ⟨rfl, by first | exact Below.refl _ _ | exact (Below.refl _ _).alloc (Nat.le_refl _) _⟩
  · have hE := plE_no h
    rw [plan_bad (by rw [hE]; decide), hE]
    unfold ly
    clear hE
    by_cases hs : Sz s
    · have HS := Lib.hid (fun w => irefsized_yes s w hs)
      have hn : c < 0 ∨ 8192 < c := by
        by_cases h0 : c < 0
        · exact .inl h0
        · by_cases h1 : 8192 < c
          · exact .inr h1
          · exact absurd ⟨hs, by omega, by omega⟩ h
      clear h hs
      rcases hn with hn | hn
      · go_enter Try.func22, Try.ntmps22
        go_wp2_with fail
        refine (HS.out _).mono ?_
        rintro e w' ⟨rfl, rfl⟩
        go_wp2
        exact bodyPost_ret (v := .tuple #[.agg #[.int .i64 0, .int .i64 0, .int .i64 0, .int .i64 0], .int .i64 1]) (by simp [results, Try.results22, go_sem]) rfl ⟨rfl, by first | exact Below.refl _ _ | exact (Below.refl _ _).alloc (Nat.le_refl _) _⟩
      · have hn0 : ¬ c < 0 := by omega
        go_enter Try.func22, Try.ntmps22
        go_wp2_with fail
        refine (HS.out _).mono ?_
        rintro e w' ⟨rfl, rfl⟩
        go_wp2
        exact bodyPost_ret (v := .tuple #[.agg #[.int .i64 0, .int .i64 0, .int .i64 0, .int .i64 0], .int .i64 1]) (by simp [results, Try.results22, go_sem]) rfl ⟨rfl, by first | exact Below.refl _ _ | exact (Below.refl _ _).alloc (Nat.le_refl _) _⟩
    · have HS := Lib.hid (fun w => irefsized_no s w hs)
      clear h hs
      go_enter Try.func22, Try.ntmps22
      go_wp2_with fail
      refine (HS.out _).mono ?_
      rintro e w' ⟨rfl, rfl⟩
      go_wp2
      exact bodyPost_ret (v := .tuple #[.agg #[.int .i64 0, .int .i64 0, .int .i64 0, .int .i64 0], .int .i64 1]) (by simp [results, Try.results22, go_sem]) rfl ⟨rfl, by first | exact Below.refl _ _ | exact (Below.refl _ _).alloc (Nat.le_refl _) _⟩

end Go.Proofs.Ytladgfonkolpmaa
