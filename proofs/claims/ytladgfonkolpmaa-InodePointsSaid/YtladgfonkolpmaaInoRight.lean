/-
  Whether an inode is right: the program's answer.
-/
import Derived.Test.YtladgfonkolpmaaInoEq
import Derived.Laws.Rows
namespace Go.Proofs.Ytladgfonkolpmaa
open Go.RowKit Crcm Tagm Inom Go.ChangeShapes

def zi : Ind := ⟨0, 0, 0, 0, 0, 0, 0, 0, 0, 0, 0⟩
/-- an inode of a kind has numbers that may be -/
def Is (i : Ind) : Prop := (0 ≤ i.l ∧ i.l ≤ 1000) ∧ (0 ≤ i.s ∧ i.s ≤ 2147483647) ∧ (Pt i.d0 ∧ Pt i.d1 ∧ Pt i.d2 ∧ Pt i.d3 ∧ Pt i.d4 ∧ Pt i.d5) ∧ Pt i.sg ∧ Pt i.db
/-- an inode that is right -/
def IR (i : Ind) : Prop := i = zi ∨ ((i.k = 1 ∨ i.k = 2) ∧ Is i)
instance (i : Ind) : Decidable (IR i) := by unfold IR Is; infer_instance
theorem IR_none {i : Ind} (h : i.k ≠ 1) (h2 : i.k ≠ 2) : decide (IR i) = decide (i = zi) := by
  rw [decide_eq_decide]
  unfold IR
  constructor
  · rintro (g | ⟨g, _⟩)
    · exact g
    · omega
  · exact .inl
theorem IR_some {i : Ind} (h : i.k = 1 ∨ i.k = 2) : IR i ↔ Is i := by
  unfold IR
  constructor
  · rintro (g | ⟨_, g⟩)
    · subst g; simp [zi] at h
    · exact g
  · exact fun g => .inr ⟨h, g⟩

set_option maxRecDepth 100000 in
set_option maxHeartbeats 2000000 in
theorem right_zero (k l s d0 d1 d2 d3 d4 d5 sg db : Int) (w : World) (h1 : k ≠ 1) (h2 : k ≠ 2) :
    Calls Try.prog 59 #[iv ⟨k, l, s, d0, d1, d2, d3, d4, d5, sg, db⟩] w fun e w' => e = .returned (.bool (decide (IR ⟨k, l, s, d0, d1, d2, d3, d4, d5, sg, db⟩))) ∧ Below w.heap.size w w' := by
  have HE := fun w => ieq ⟨k, l, s, d0, d1, d2, d3, d4, d5, sg, db⟩ zi w
  rw [IR_none h1 h2]
  generalize decide ((⟨k, l, s, d0, d1, d2, d3, d4, d5, sg, db⟩ : Ind) = zi) = B at HE ⊢
  unfold iv zi at HE
  unfold iv
  have e1 : (k == 1) = false := by simpa using h1
  have e2 : (k == 2) = false := by simpa using h2
  have e3 : (k != 1) = true := by simpa using h1
  have e4 : (k != 2) = true := by simpa using h2
  clear h1 h2
  go_enter Try.func59, Try.ntmps59
  go_wp2
  go_ret
  exact ⟨rfl, (Below.refl _ _).alloc (Nat.le_refl _) _⟩

theorem idx0 (d0 d1 d2 d3 d4 d5 : Int) (w : World) : (Instr.index 63 (.agg #[.int .i64 d0, .int .i64 d1, .int .i64 d2, .int .i64 d3, .int .i64 d4, .int .i64 d5]) (.int .i64 0)).run Try.prog w = .ok (.int .i64 d0) w := by kernel_rfl
theorem idx1 (d0 d1 d2 d3 d4 d5 : Int) (w : World) : (Instr.index 63 (.agg #[.int .i64 d0, .int .i64 d1, .int .i64 d2, .int .i64 d3, .int .i64 d4, .int .i64 d5]) (.int .i64 1)).run Try.prog w = .ok (.int .i64 d1) w := by kernel_rfl
theorem idx2 (d0 d1 d2 d3 d4 d5 : Int) (w : World) : (Instr.index 63 (.agg #[.int .i64 d0, .int .i64 d1, .int .i64 d2, .int .i64 d3, .int .i64 d4, .int .i64 d5]) (.int .i64 2)).run Try.prog w = .ok (.int .i64 d2) w := by kernel_rfl
theorem idx3 (d0 d1 d2 d3 d4 d5 : Int) (w : World) : (Instr.index 63 (.agg #[.int .i64 d0, .int .i64 d1, .int .i64 d2, .int .i64 d3, .int .i64 d4, .int .i64 d5]) (.int .i64 3)).run Try.prog w = .ok (.int .i64 d3) w := by kernel_rfl
theorem idx4 (d0 d1 d2 d3 d4 d5 : Int) (w : World) : (Instr.index 63 (.agg #[.int .i64 d0, .int .i64 d1, .int .i64 d2, .int .i64 d3, .int .i64 d4, .int .i64 d5]) (.int .i64 4)).run Try.prog w = .ok (.int .i64 d4) w := by kernel_rfl
theorem idx5 (d0 d1 d2 d3 d4 d5 : Int) (w : World) : (Instr.index 63 (.agg #[.int .i64 d0, .int .i64 d1, .int .i64 d2, .int .i64 d3, .int .i64 d4, .int .i64 d5]) (.int .i64 5)).run Try.prog w = .ok (.int .i64 d5) w := by kernel_rfl

set_option maxRecDepth 100000 in
set_option maxHeartbeats 8000000 in
theorem right_some (k l s d0 d1 d2 d3 d4 d5 sg db : Int) (w : World) (h : k = 1 ∨ k = 2) :
    Calls Try.prog 59 #[iv ⟨k, l, s, d0, d1, d2, d3, d4, d5, sg, db⟩] w fun e w' => e = .returned (.bool (decide (IR ⟨k, l, s, d0, d1, d2, d3, d4, d5, sg, db⟩))) ∧ Below w.heap.size w w' := by
  have hI := IR_some (i := ⟨k, l, s, d0, d1, d2, d3, d4, d5, sg, db⟩) h
  have HI : Hid (IR ⟨k, l, s, d0, d1, d2, d3, d4, d5, sg, db⟩ ↔ Is ⟨k, l, s, d0, d1, d2, d3, d4, d5, sg, db⟩) := Lib.hid hI
  obtain ⟨B, hB⟩ : ∃ B, B = decide (IR ⟨k, l, s, d0, d1, d2, d3, d4, d5, sg, db⟩) := ⟨_, rfl⟩
  rw [← hB]
  have HN : Hid (¬ Is ⟨k, l, s, d0, d1, d2, d3, d4, d5, sg, db⟩ → B = false) := Lib.hid (fun g => by rw [hB]; exact decide_eq_false (fun q => g (hI.1 q)))
  have HY : Hid (Is ⟨k, l, s, d0, d1, d2, d3, d4, d5, sg, db⟩ → B = true) := Lib.hid (fun g => by rw [hB]; exact decide_eq_true (hI.2 g))
  clear hI HI hB
  unfold iv
  rcases h with rfl | rfl
  all_goals
    go_enter Try.func59, Try.ntmps59
    go_wp2_with fail
    go_loop [18] (fun i => ∃ n : Nat, n ≤ 6 ∧ i = .int .i64 n ∧ Hid ((0 < n → Pt d0) ∧ (1 < n → Pt d1) ∧ (2 < n → Pt d2) ∧ (3 < n → Pt d3) ∧ (4 < n → Pt d4) ∧ (5 < n → Pt d5))) (fun i => 6 - (intOf i).toNat)
    case atStart => exact ⟨0, by omega, rfl, Lib.hid ⟨by omega, by omega, by omega, by omega, by omega, by omega⟩⟩
    case round =>
      obtain ⟨n, hn, rfl, hp⟩ := hrel
      have hc : n = 0 ∨ n = 1 ∨ n = 2 ∨ n = 3 ∨ n = 4 ∨ n = 5 ∨ n = 6 := by omega
      rcases hc with rfl | rfl | rfl | rfl | rfl | rfl | rfl
      · have hi := fun w => idx0 d0 d1 d2 d3 d4 d5 w
        by_cases hq : Pt d0
        · have HQ := Lib.hid hq
          have HC := Lib.hid (fun w => pts_yes d0 w hq)
          clear hq
          go_wp2_with fail
          refine (HC.out _).mono ?_
          rintro e w' ⟨rfl, rfl⟩
          go_wp2
          go_round
          case rel => exact ⟨1, by omega, rfl, Lib.hid ⟨fun _ => HQ.out, by omega, by omega, by omega, by omega, by omega⟩⟩
          case measure => simp [intOf]
        · have HQ := Lib.hid hq
          have HC := Lib.hid (fun w => pts_no d0 w hq)
          clear hq
          go_wp2_with fail
          refine (HC.out _).mono ?_
          rintro e w' ⟨rfl, rfl⟩
          go_wp2
          go_ret
          exact ⟨ret_bool (HN.out fun hs => HQ.out hs.2.2.1.1).symm, (Below.refl _ _).alloc (Nat.le_refl _) _⟩
      · have hi := fun w => idx1 d0 d1 d2 d3 d4 d5 w
        by_cases hq : Pt d1
        · have HQ := Lib.hid hq
          have HC := Lib.hid (fun w => pts_yes d1 w hq)
          clear hq
          go_wp2_with fail
          refine (HC.out _).mono ?_
          rintro e w' ⟨rfl, rfl⟩
          go_wp2
          go_round
          case rel => exact ⟨2, by omega, rfl, Lib.hid ⟨fun _ => hp.out.1 (by omega), fun _ => HQ.out, by omega, by omega, by omega, by omega⟩⟩
          case measure => simp [intOf]
        · have HQ := Lib.hid hq
          have HC := Lib.hid (fun w => pts_no d1 w hq)
          clear hq
          go_wp2_with fail
          refine (HC.out _).mono ?_
          rintro e w' ⟨rfl, rfl⟩
          go_wp2
          go_ret
          exact ⟨ret_bool (HN.out fun hs => HQ.out hs.2.2.1.2.1).symm, (Below.refl _ _).alloc (Nat.le_refl _) _⟩
      · have hi := fun w => idx2 d0 d1 d2 d3 d4 d5 w
        by_cases hq : Pt d2
        · have HQ := Lib.hid hq
          have HC := Lib.hid (fun w => pts_yes d2 w hq)
          clear hq
          go_wp2_with fail
          refine (HC.out _).mono ?_
          rintro e w' ⟨rfl, rfl⟩
          go_wp2
          go_round
          case rel => exact ⟨3, by omega, rfl, Lib.hid ⟨fun _ => hp.out.1 (by omega), fun _ => hp.out.2.1 (by omega), fun _ => HQ.out, by omega, by omega, by omega⟩⟩
          case measure => simp [intOf]
        · have HQ := Lib.hid hq
          have HC := Lib.hid (fun w => pts_no d2 w hq)
          clear hq
          go_wp2_with fail
          refine (HC.out _).mono ?_
          rintro e w' ⟨rfl, rfl⟩
          go_wp2
          go_ret
          exact ⟨ret_bool (HN.out fun hs => HQ.out hs.2.2.1.2.2.1).symm, (Below.refl _ _).alloc (Nat.le_refl _) _⟩
      · have hi := fun w => idx3 d0 d1 d2 d3 d4 d5 w
        by_cases hq : Pt d3
        · have HQ := Lib.hid hq
          have HC := Lib.hid (fun w => pts_yes d3 w hq)
          clear hq
          go_wp2_with fail
          refine (HC.out _).mono ?_
          rintro e w' ⟨rfl, rfl⟩
          go_wp2
          go_round
          case rel => exact ⟨4, by omega, rfl, Lib.hid ⟨fun _ => hp.out.1 (by omega), fun _ => hp.out.2.1 (by omega), fun _ => hp.out.2.2.1 (by omega), fun _ => HQ.out, by omega, by omega⟩⟩
          case measure => simp [intOf]
        · have HQ := Lib.hid hq
          have HC := Lib.hid (fun w => pts_no d3 w hq)
          clear hq
          go_wp2_with fail
          refine (HC.out _).mono ?_
          rintro e w' ⟨rfl, rfl⟩
          go_wp2
          go_ret
          exact ⟨ret_bool (HN.out fun hs => HQ.out hs.2.2.1.2.2.2.1).symm, (Below.refl _ _).alloc (Nat.le_refl _) _⟩
      · have hi := fun w => idx4 d0 d1 d2 d3 d4 d5 w
        by_cases hq : Pt d4
        · have HQ := Lib.hid hq
          have HC := Lib.hid (fun w => pts_yes d4 w hq)
          clear hq
          go_wp2_with fail
          refine (HC.out _).mono ?_
          rintro e w' ⟨rfl, rfl⟩
          go_wp2
          go_round
          case rel => exact ⟨5, by omega, rfl, Lib.hid ⟨fun _ => hp.out.1 (by omega), fun _ => hp.out.2.1 (by omega), fun _ => hp.out.2.2.1 (by omega), fun _ => hp.out.2.2.2.1 (by omega), fun _ => HQ.out, by omega⟩⟩
          case measure => simp [intOf]
        · have HQ := Lib.hid hq
          have HC := Lib.hid (fun w => pts_no d4 w hq)
          clear hq
          go_wp2_with fail
          refine (HC.out _).mono ?_
          rintro e w' ⟨rfl, rfl⟩
          go_wp2
          go_ret
          exact ⟨ret_bool (HN.out fun hs => HQ.out hs.2.2.1.2.2.2.2.1).symm, (Below.refl _ _).alloc (Nat.le_refl _) _⟩
      · have hi := fun w => idx5 d0 d1 d2 d3 d4 d5 w
        by_cases hq : Pt d5
        · have HQ := Lib.hid hq
          have HC := Lib.hid (fun w => pts_yes d5 w hq)
          clear hq
          go_wp2_with fail
          refine (HC.out _).mono ?_
          rintro e w' ⟨rfl, rfl⟩
          go_wp2
          go_round
          case rel => exact ⟨6, by omega, rfl, Lib.hid ⟨fun _ => hp.out.1 (by omega), fun _ => hp.out.2.1 (by omega), fun _ => hp.out.2.2.1 (by omega), fun _ => hp.out.2.2.2.1 (by omega), fun _ => hp.out.2.2.2.2.1 (by omega), fun _ => HQ.out⟩⟩
          case measure => simp [intOf]
        · have HQ := Lib.hid hq
          have HC := Lib.hid (fun w => pts_no d5 w hq)
          clear hq
          go_wp2_with fail
          refine (HC.out _).mono ?_
          rintro e w' ⟨rfl, rfl⟩
          go_wp2
          go_ret
          exact ⟨ret_bool (HN.out fun hs => HQ.out hs.2.2.1.2.2.2.2.2).symm, (Below.refl _ _).alloc (Nat.le_refl _) _⟩
      · have HP : Hid (Pt d0 ∧ Pt d1 ∧ Pt d2 ∧ Pt d3 ∧ Pt d4 ∧ Pt d5) := Lib.hid ⟨hp.out.1 (by omega), hp.out.2.1 (by omega), hp.out.2.2.1 (by omega), hp.out.2.2.2.1 (by omega), hp.out.2.2.2.2.1 (by omega), hp.out.2.2.2.2.2 (by omega)⟩
        clear hp hn
        by_cases hl0 : l < 0
        · go_wp2
          go_ret
          exact ⟨ret_bool (HN.out fun hs => by have h1 := hs.1.1; simp at h1; omega).symm, (Below.refl _ _).alloc (Nat.le_refl _) _⟩
        by_cases hl1 : 1000 < l
        · go_wp2
          go_ret
          exact ⟨ret_bool (HN.out fun hs => by have h1 := hs.1.2; simp at h1; omega).symm, (Below.refl _ _).alloc (Nat.le_refl _) _⟩
        by_cases hs0 : s < 0
        · go_wp2
          go_ret
          exact ⟨ret_bool (HN.out fun hs => by have h1 := hs.2.1.1; simp at h1; omega).symm, (Below.refl _ _).alloc (Nat.le_refl _) _⟩
        by_cases hs1 : 2147483647 < s
        · go_wp2
          go_ret
          exact ⟨ret_bool (HN.out fun hs => by have h1 := hs.2.1.2; simp at h1; omega).symm, (Below.refl _ _).alloc (Nat.le_refl _) _⟩
        by_cases hq : Pt sg
        · by_cases hq2 : Pt db
          · have HQ : Hid (B = true) := Lib.hid (HY.out ⟨⟨by simpa using hl0, by simpa using hl1⟩, ⟨by simpa using hs0, by simpa using hs1⟩, HP.out, hq, hq2⟩)
            have HC := Lib.hid (fun w => pts_yes sg w hq)
            have HD := Lib.hid (fun w => pts_yes db w hq2)
            clear hq hq2
            go_wp2_with fail
            refine (HC.out _).mono ?_
            rintro e w' ⟨rfl, rfl⟩
            go_wp2_with fail
            refine (HD.out _).mono ?_
            rintro e w' ⟨rfl, rfl⟩
            go_wp2
            go_ret
            exact ⟨ret_bool HQ.out.symm, (Below.refl _ _).alloc (Nat.le_refl _) _⟩
          · have HQ : Hid (B = false) := Lib.hid (HN.out fun hs => hq2 hs.2.2.2.2)
            have HC := Lib.hid (fun w => pts_yes sg w hq)
            have HD := Lib.hid (fun w => pts_no db w hq2)
            clear hq hq2
            go_wp2_with fail
            refine (HC.out _).mono ?_
            rintro e w' ⟨rfl, rfl⟩
            go_wp2_with fail
            refine (HD.out _).mono ?_
            rintro e w' ⟨rfl, rfl⟩
            go_wp2
            go_ret
            exact ⟨ret_bool HQ.out.symm, (Below.refl _ _).alloc (Nat.le_refl _) _⟩
        · have HQ : Hid (B = false) := Lib.hid (HN.out fun hs => hq hs.2.2.2.1)
          have HC := Lib.hid (fun w => pts_no sg w hq)
          clear hq
          go_wp2_with fail
          refine (HC.out _).mono ?_
          rintro e w' ⟨rfl, rfl⟩
          go_wp2
          go_ret
          exact ⟨ret_bool HQ.out.symm, (Below.refl _ _).alloc (Nat.le_refl _) _⟩

theorem iright_any (i : Ind) (w : World) : Calls Try.prog 59 #[iv i] w fun e w' => e = .returned (.bool (decide (IR i))) ∧ Below w.heap.size w w' := by
  obtain ⟨k, l, s, d0, d1, d2, d3, d4, d5, sg, db⟩ := i
  by_cases h1 : k = 1
  · exact right_some _ _ _ _ _ _ _ _ _ _ _ w (.inl h1)
  · by_cases h2 : k = 2
    · exact right_some _ _ _ _ _ _ _ _ _ _ _ w (.inr h2)
    · exact right_zero _ _ _ _ _ _ _ _ _ _ _ w h1 h2

end Go.Proofs.Ytladgfonkolpmaa
