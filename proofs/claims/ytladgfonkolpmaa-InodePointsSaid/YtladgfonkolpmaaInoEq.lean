/-
  Two inodes held against one another, by value.
-/
import Derived.Test.YtladgfonkolpmaaInoLaws
import Derived.ChangeKeysEq
namespace Go.Proofs.Ytladgfonkolpmaa
open Go.RowKit Crcm Tagm Inom Go.ChangeShapes

theorem Try.info3 : (Try.prog.info? 3).map (fun i => (i.zero, i.size, i.bytes)) = some (some (.int .i64 0), 1, 8) := by kernel_rfl
theorem Try.cellsI : Try.prog.cellsOf 3 = 1 := by kernel_rfl
theorem run_items6 (d : Nat) (a0 a1 a2 a3 a4 a5 b0 b1 b2 b3 b4 b5 : Int) (w : World) :
    (Op.equalIn (d + 2) 63 (.agg #[.int .i64 a0, .int .i64 a1, .int .i64 a2, .int .i64 a3, .int .i64 a4, .int .i64 a5]) (.agg #[.int .i64 b0, .int .i64 b1, .int .i64 b2, .int .i64 b3, .int .i64 b4, .int .i64 b5])).run Try.prog w =
      .ok (a0 == b0 && (a1 == b1 && (a2 == b2 && (a3 == b3 && (a4 == b4 && a5 == b5))))) w := by
  obtain ⟨i, hi, _, _, _⟩ := info_parts Try.info3
  rw [run_equalIn_array w (d + 1) _ _ Try.underlying63 hi, Try.cellsI]
  have e : List.range 6 = [0, 1, 2, 3, 4, 5] := rfl
  have q : ∀ x y w, (Op.equalIn (d + 1) 3 (.int .i64 x) (.int .i64 y)).run Try.prog w = .ok (x == y) w := fun x y w => run_equalIn_int w d 3 .i64 .i64 x y Try.underlying3
  rw [e]
  simp only [Op.eqItems]
  go_simp
  repeat' split
  all_goals simp_all

theorem ieq (i j : Ind) (w : World) : (binOp .eql 65 (iv i) (iv j)).run Try.prog w = .ok (.bool (decide (i = j))) w := by
  obtain ⟨a, b, c, a0, a1, a2, a3, a4, a5, e, f⟩ := i
  obtain ⟨a', b', c', b0, b1, b2, b3, b4, b5, e', f'⟩ := j
  have q := fun a0 a1 a2 a3 a4 a5 b0 b1 b2 b3 b4 b5 w => run_items6 9997 a0 a1 a2 a3 a4 a5 b0 b1 b2 b3 b4 b5 w
  simp only [Nat.reduceAdd] at q
  unfold iv
  rw [run_eql_struct]
  go_simp
  by_cases h1 : a = a'
  · by_cases h2 : b = b'
    · by_cases h3 : c = c'
      · by_cases h4 : e = e'
        · by_cases h5 : f = f'
          · by_cases g0 : a0 = b0 <;> by_cases g1 : a1 = b1 <;> by_cases g2 : a2 = b2 <;> by_cases g3 : a3 = b3 <;> by_cases g4 : a4 = b4 <;> by_cases g5 : a5 = b5 <;> simp [h1, h2, h3, h4, h5, g0, g1, g2, g3, g4, g5]
          · simp [h1, h2, h3, h4, h5]
        · simp [h1, h2, h3, h4]
      · simp [h1, h2, h3]
    · simp [h1, h2]
  · simp [h1]

end Go.Proofs.Ytladgfonkolpmaa
