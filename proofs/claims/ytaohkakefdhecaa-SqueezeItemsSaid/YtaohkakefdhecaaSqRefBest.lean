/-
  The longest copy at a place: the document's best. Nothing of one statement alone stands here.
-/
import Derived.Test.YtaohkakefdhecaaSqLook
import Derived.Test.YtaohkakefdhecaaSqWalk
namespace Go.Proofs.Ytaohkakefdhecaa
open Go.RowKit Crcm Sqm Tagm Inom Roomm Go.ChangeShapes

set_option maxRecDepth 100000 in
set_option maxHeartbeats 2000000 in
theorem rbest_any (b off m c k : Nat) (l : List Int) (w : World) (hr : Rw w (some ⟨b, off, none⟩) l) (hl : l.length = m) (hk : k < m) (hm : (m : Int) ≤ 4611686018427380000) :
    Calls Try.prog 21 #[.slice (some ⟨b, off, none⟩) m c, .int .i64 (k : Int)] w fun e w' => e = .returned (.tuple #[.int .i64 (cpn l k : Int), .int .i64 (cpd l k : Int)]) ∧ Below w.heap.size w w' := by
  have HR := Lib.hid hr
  have HL := Lib.hid hl
  obtain ⟨D, hD⟩ : ∃ D, min 4096 k = D := ⟨_, rfl⟩
  have hD1 : D ≤ 4096 := by omega
  have hDk : D ≤ k := by omega
  have HD := Lib.hid hD
  obtain ⟨M, hM⟩ : ∃ M, mx l k = M := ⟨_, rfl⟩
  have hM2 : M ≤ 130 := by unfold mx at hM; omega
  have hM3 : k + M ≤ m := by unfold mx at hM; omega
  have hM4 : M = 130 ∨ k + M = m := by unfold mx at hM; omega
  have HM := Lib.hid hM
  clear hr hl hM
  go_enter Try.func21, Try.ntmps21
  go_wp2_with fail
  go_loopw [6, 7, 8] (fun s6 s7 s8 wr => ∃ j L1 L2 : Nat, j ≤ D ∧ s6 = .int .i64 (L1 : Int) ∧ s7 = .int .i64 (L2 : Int) ∧ s8 = .int .i64 ((j : Int) + 1) ∧ Hid (bst l k j = (L1, L2)) ∧ Hid (Below w.heap.size w wr)) (fun _ _ s8 _ => D + 1 - (intOf s8).toNat)
  case atStart => exact ⟨0, 0, 0, by omega, rfl, rfl, rfl, Lib.hid rfl, Lib.hid (Below.refl _ _)⟩
  case round =>
    obtain ⟨j, L1, L2, hj, rfl, rfl, rfl, hbs, hB⟩ := hrel
    by_cases hlt : j < D
    · have q1 : (j : Int) + 1 ≤ 4096 := by omega
      have q2 : (j : Int) + 1 ≤ (k : Int) := by omega
      go_wp2_with fail
      go_loopw [9] (fun s9 wr => ∃ n : Nat, n ≤ M ∧ s9 = .int .i64 (n : Int) ∧ Hid (al l (k - (j + 1)) k n = n) ∧ Hid (Below w.heap.size w wr)) (fun s9 _ => M - (intOf s9).toNat)
      case atStart => exact ⟨0, by omega, rfl, Lib.hid rfl, hB⟩
      case round =>
        obtain ⟨n, hn, rfl, hA, hB2⟩ := hrel
        by_cases hnM : n < M
        · have hRw := HR.out.below hB2.out
          have g1 := hRw.get (j := k + n) (by have := HL.out; omega)
          have g2 := hRw.get (j := k - (j + 1) + n) (by have := HL.out; omega)
          obtain ⟨i2, hi2⟩ : ∃ i2, k - (j + 1) + n = i2 := ⟨_, rfl⟩
          rw [hi2] at g2
          have ei : (k : Int) + (n : Int) - ((j : Int) + 1) = (i2 : Int) := by omega
          have HY : Hid (l.getD (k + n) 0 = l.getD i2 0 → al l (k - (j + 1)) k (n + 1) = n + 1) := Lib.hid (fun h => al_succ hA.out (by rw [hi2]; exact h.symm))
          have HN : Hid (l.getD (k + n) 0 ≠ l.getD i2 0 → al l (k - (j + 1)) k M = n) := Lib.hid (fun h => al_stop' hA.out (by rw [hi2]; exact fun h2 => h h2.symm) hn)
          generalize l.getD (k + n) 0 = x at g1 HY HN
          generalize l.getD i2 0 = y at g2 HY HN
          have e1 := fun mm : Later wr => latercell mm g1
          have e2 := fun mm : Later wr => latercell mm g2
          have n1 : (n : Int) < 130 := by omega
          have n2 : (k : Int) + (n : Int) < (m : Int) := by omega
          have i2m : i2 < m := by omega
          have i2I : (i2 : Int) ≤ 4611686018427380000 := by omega
          clear g1 g2 hRw
          by_cases hxy : x = y
          · have HS := Lib.hid (HY.out hxy)
            have t : ((x : Int) == y) = true := by simp [hxy]
            clear HY HN hxy hi2
            go_wp2_with fail
            refine wp_region_later (by kernel_rfl) (by kernel_rfl) ?_
            repeat (go_big_quiet_step (fail))
            refine wpQuiet_nil ?_
            rintro _ ⟨mm, rfl⟩
            go_wp2
            go_roundw
            case rel => exact ⟨n + 1, by omega, by go_num, HS, Lib.hid (hB2.out.trans (mm.bel.mono hB2.out.size))⟩
            case measure => simp [intOf]; omega
          · have HS := Lib.hid (HN.out hxy)
            have t : ((x : Int) == y) = false := by simp [hxy]
            clear HY HN hxy hi2
            go_wp2_with fail
            refine wp_region_later (by kernel_rfl) (by kernel_rfl) ?_
            repeat (go_big_quiet_step (fail))
            refine wpQuiet_nil ?_
            rintro _ ⟨mm, rfl⟩
            have HBs : Hid (bst l k (j + 1) = if 3 ≤ n ∧ L1 < n then (n, j + 1) else (L1, L2)) := Lib.hid (by rw [bst, HM.out, HS.out, hbs.out])
            by_cases h3 : 3 ≤ n
            · have q3 : (2 : Int) < (n : Int) := by omega
              by_cases h4 : L1 < n
              · have q4 : (L1 : Int) < (n : Int) := by omega
                have HF : Hid (bst l k (j + 1) = (n, j + 1)) := Lib.hid (by rw [HBs.out, if_pos ⟨h3, h4⟩])
                clear h3 h4 HBs
                have HBe := Lib.hid (hB2.out.trans (mm.bel.mono hB2.out.size))
                go_wp2
                go_roundw
                case rel => exact ⟨j + 1, n, j + 1, by omega, rfl, by go_num, by go_num, HF, HBe⟩
                case measure => simp [intOf]; omega
              · have q4 : ¬ (L1 : Int) < (n : Int) := by omega
                have HF : Hid (bst l k (j + 1) = (L1, L2)) := Lib.hid (by rw [HBs.out, if_neg (fun h => h4 h.2)])
                clear h3 h4 HBs
                have HBe := Lib.hid (hB2.out.trans (mm.bel.mono hB2.out.size))
                go_wp2
                go_roundw
                case rel => exact ⟨j + 1, L1, L2, by omega, rfl, rfl, by go_num, HF, HBe⟩
                case measure => simp [intOf]; omega
            · have q3 : ¬ (2 : Int) < (n : Int) := by omega
              have HF : Hid (bst l k (j + 1) = (L1, L2)) := Lib.hid (by rw [HBs.out, if_neg (fun h => h3 h.1)])
              clear h3 HBs
              have HBe := Lib.hid (hB2.out.trans (mm.bel.mono hB2.out.size))
              go_wp2
              go_roundw
              case rel => exact ⟨j + 1, L1, L2, by omega, rfl, rfl, by go_num, HF, HBe⟩
              case measure => simp [intOf]; omega
        · have hnM2 : n = M := by omega
          have HS : Hid (al l (k - (j + 1)) k M = n) := Lib.hid (by rw [← hnM2]; exact hA.out)
          by_cases h130 : n = 130
          · have n1 : decide ((n : Int) < 130) = false := by simp; omega
            clear hnM2 h130
            have HBs : Hid (bst l k (j + 1) = if 3 ≤ n ∧ L1 < n then (n, j + 1) else (L1, L2)) := Lib.hid (by rw [bst, HM.out, HS.out, hbs.out])
            by_cases h3 : 3 ≤ n
            · have q3 : (2 : Int) < (n : Int) := by omega
              by_cases h4 : L1 < n
              · have q4 : (L1 : Int) < (n : Int) := by omega
                have HF : Hid (bst l k (j + 1) = (n, j + 1)) := Lib.hid (by rw [HBs.out, if_pos ⟨h3, h4⟩])
                clear h3 h4 HBs
                go_wp2_with fail
                refine wp_region_later (by kernel_rfl) (by kernel_rfl) ?_
                repeat (go_big_quiet_step (fail))
                refine wpQuiet_nil ?_
                rintro _ ⟨mm, rfl⟩
                have HBe := Lib.hid (hB2.out.trans (mm.bel.mono hB2.out.size))
                go_wp2
                go_roundw
                case rel => exact ⟨j + 1, n, j + 1, by omega, rfl, by go_num, by go_num, HF, HBe⟩
                case measure => simp [intOf]; omega
              · have q4 : ¬ (L1 : Int) < (n : Int) := by omega
                have HF : Hid (bst l k (j + 1) = (L1, L2)) := Lib.hid (by rw [HBs.out, if_neg (fun h => h4 h.2)])
                clear h3 h4 HBs
                go_wp2_with fail
                refine wp_region_later (by kernel_rfl) (by kernel_rfl) ?_
                repeat (go_big_quiet_step (fail))
                refine wpQuiet_nil ?_
                rintro _ ⟨mm, rfl⟩
                have HBe := Lib.hid (hB2.out.trans (mm.bel.mono hB2.out.size))
                go_wp2
                go_roundw
                case rel => exact ⟨j + 1, L1, L2, by omega, rfl, rfl, by go_num, HF, HBe⟩
                case measure => simp [intOf]; omega
            · have q3 : ¬ (2 : Int) < (n : Int) := by omega
              have HF : Hid (bst l k (j + 1) = (L1, L2)) := Lib.hid (by rw [HBs.out, if_neg (fun h => h3 h.1)])
              clear h3 HBs
              go_wp2_with fail
              refine wp_region_later (by kernel_rfl) (by kernel_rfl) ?_
              repeat (go_big_quiet_step (fail))
              refine wpQuiet_nil ?_
              rintro _ ⟨mm, rfl⟩
              have HBe := Lib.hid (hB2.out.trans (mm.bel.mono hB2.out.size))
              go_wp2
              go_roundw
              case rel => exact ⟨j + 1, L1, L2, by omega, rfl, rfl, by go_num, HF, HBe⟩
              case measure => simp [intOf]; omega
          · have n1 : decide ((n : Int) < 130) = true := by simp; omega
            have n2 : decide ((k : Int) + (n : Int) < (m : Int)) = false := by simp; omega
            have n3 : (k : Int) + (n : Int) ≤ 4611686018427380000 := by omega
            clear hnM2 h130
            have HBs : Hid (bst l k (j + 1) = if 3 ≤ n ∧ L1 < n then (n, j + 1) else (L1, L2)) := Lib.hid (by rw [bst, HM.out, HS.out, hbs.out])
            by_cases h3 : 3 ≤ n
            · have q3 : (2 : Int) < (n : Int) := by omega
              by_cases h4 : L1 < n
              · have q4 : (L1 : Int) < (n : Int) := by omega
                have HF : Hid (bst l k (j + 1) = (n, j + 1)) := Lib.hid (by rw [HBs.out, if_pos ⟨h3, h4⟩])
                clear h3 h4 HBs
                go_wp2_with fail
                refine wp_region_later (by kernel_rfl) (by kernel_rfl) ?_
                repeat (go_big_quiet_step (fail))
                refine wpQuiet_nil ?_
                rintro _ ⟨mm, rfl⟩
                have HBe := Lib.hid (hB2.out.trans (mm.bel.mono hB2.out.size))
                go_wp2
                go_roundw
                case rel => exact ⟨j + 1, n, j + 1, by omega, rfl, by go_num, by go_num, HF, HBe⟩
                case measure => simp [intOf]; omega
              · have q4 : ¬ (L1 : Int) < (n : Int) := by omega
                have HF : Hid (bst l k (j + 1) = (L1, L2)) := Lib.hid (by rw [HBs.out, if_neg (fun h => h4 h.2)])
                clear h3 h4 HBs
                go_wp2_with fail
                refine wp_region_later (by kernel_rfl) (by kernel_rfl) ?_
                repeat (go_big_quiet_step (fail))
                refine wpQuiet_nil ?_
                rintro _ ⟨mm, rfl⟩
                have HBe := Lib.hid (hB2.out.trans (mm.bel.mono hB2.out.size))
                go_wp2
                go_roundw
                case rel => exact ⟨j + 1, L1, L2, by omega, rfl, rfl, by go_num, HF, HBe⟩
                case measure => simp [intOf]; omega
            · have q3 : ¬ (2 : Int) < (n : Int) := by omega
              have HF : Hid (bst l k (j + 1) = (L1, L2)) := Lib.hid (by rw [HBs.out, if_neg (fun h => h3 h.1)])
              clear h3 HBs
              go_wp2_with fail
              refine wp_region_later (by kernel_rfl) (by kernel_rfl) ?_
              repeat (go_big_quiet_step (fail))
              refine wpQuiet_nil ?_
              rintro _ ⟨mm, rfl⟩
              have HBe := Lib.hid (hB2.out.trans (mm.bel.mono hB2.out.size))
              go_wp2
              go_roundw
              case rel => exact ⟨j + 1, L1, L2, by omega, rfl, rfl, by go_num, HF, HBe⟩
              case measure => simp [intOf]; omega
    · have hjD : j = D := by omega
      subst hjD
      have HE : Hid (cpn l k = L1 ∧ cpd l k = L2) := Lib.hid (by unfold cpn cpd; rw [HD.out, hbs.out]; exact ⟨rfl, rfl⟩)
      have q0 : ¬ ((j : Int) + 1 ≤ 4096 ∧ (j : Int) + 1 ≤ (k : Int)) := by have := HD.out; omega
      by_cases q1 : (j : Int) + 1 ≤ 4096
      · have q2 : ¬ (j : Int) + 1 ≤ (k : Int) := fun h => q0 ⟨q1, h⟩
        clear q0
        go_wp2
        go_ret2
        exact ⟨by rw [HE.out.1, HE.out.2]; rfl, hB.out⟩
      · clear q0
        go_wp2
        go_ret2
        exact ⟨by rw [HE.out.1, HE.out.2]; rfl, hB.out⟩
end Go.Proofs.Ytaohkakefdhecaa
