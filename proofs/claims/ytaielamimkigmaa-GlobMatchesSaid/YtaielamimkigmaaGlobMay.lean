/-
  What a pattern's parts stand for: the program's Match, barren.
-/
import Derived.Test.YtaielamimkigmaaGlobOver
import Derived.ChangeKeysEq
namespace Go.Proofs.Ytaielamimkigmaa
open Go.RowKit Go.ChangeShapes Globm Go.ChangeMaps

set_option maxRecDepth 100000 in
theorem match_any (v : Value) (L : List ByteArray) (a : Option Addr) (n cap : Nat) (names : List ByteArray) (w : World) (hp : Pt w v L) (hL : L.length ≤ 100000)
    (hR : Rs w a names) (hn : names.length = n) (hn2 : n ≤ 100000) (hz : ∀ x ∈ names, x.size ≤ 100000) :
    Calls Try.prog 17 #[v, .slice a n cap] w fun e w' => e = .returned (.bool (cv (L.map pk) names (fun _ => false) 0 0)) ∧ Below w.heap.size w w' := by
  have HO := Lib.hid (over_any 34 #[] (fun _ => false) v L a n cap names w hp hL hR hn hn2 hz (fun W i _ _ _ => (nothing_any (.int .i64 i) W).mono fun e w' ⟨he, hw⟩ => ⟨he, by subst hw; exact Below.refl _ _⟩) (enters_go rfl rfl rfl))
  obtain ⟨g, A, k, c, rfl, -⟩ := hp
  clear hR hn hn2 hz hL
  generalize cv (L.map pk) names (fun _ => false) 0 0 = r at HO ⊢
  go_enter Try.func17, Try.ntmps17
  go_wp2_with fail
  refine HO.out.mono ?_
  rintro e w2 ⟨rfl, hb⟩
  go_wp2
  go_ret
  exact ⟨rfl, hb⟩
set_option maxRecDepth 100000 in
theorem match_nil (x : Value) (w : World) : Calls Try.prog 17 #[.pointer none, x] w fun e w' => e = .returned (.bool false) ∧ w = w' := by
  go_enter Try.func17, Try.ntmps17
  go_wp2
  go_ret
  exact ⟨rfl, rfl⟩

/-- is there nothing that a piece stands for? -/
def bz (x : Mk Nat) : Bool := !x.run && ((wj (ps x) 0 : Int) == 0 && ((wj (ps x) 1 : Int) == 0 && ((wj (ps x) 2 : Int) == 0 && ((wj (ps x) 3 : Int) == 0))))
theorem infoU : (Try.prog.info? 71).map (fun i => (i.zero, i.size, i.bytes)) = some (some (.int .u64 0), 1, 8) := by kernel_rfl
theorem cellsU : Try.prog.cellsOf 71 = 1 := by kernel_rfl
theorem run_items4 (d : Nat) (a0 a1 a2 a3 b0 b1 b2 b3 : Int) (w : World) :
    (Op.equalIn (d + 2) 73 (.agg #[.int .u64 a0, .int .u64 a1, .int .u64 a2, .int .u64 a3]) (.agg #[.int .u64 b0, .int .u64 b1, .int .u64 b2, .int .u64 b3])).run Try.prog w =
      .ok (a0 == b0 && (a1 == b1 && (a2 == b2 && (a3 == b3)))) w := by
  obtain ⟨i, hi, _, _, _⟩ := info_parts infoU
  rw [run_equalIn_array w (d + 1) _ _ Try.underlying73 hi, cellsU]
  have e : List.range 4 = [0, 1, 2, 3] := rfl
  have q : ∀ x y w, (Op.equalIn (d + 1) 71 (.int .u64 x) (.int .u64 y)).run Try.prog w = .ok (x == y) w := fun x y w => run_equalIn_int w d 71 .u64 .u64 x y Try.underlying71
  rw [e]
  simp only [Op.eqItems]
  go_simp
  repeat' split
  all_goals simp_all
theorem eq4 (a0 a1 a2 a3 b0 b1 b2 b3 : Int) (w : World) : (binOp .eql 73 (.agg #[.int .u64 a0, .int .u64 a1, .int .u64 a2, .int .u64 a3]) (.agg #[.int .u64 b0, .int .u64 b1, .int .u64 b2, .int .u64 b3])).run Try.prog w = .ok (.bool (a0 == b0 && (a1 == b1 && (a2 == b2 && (a3 == b3))))) w := by
  have q := fun w => run_items4 9998 a0 a1 a2 a3 b0 b1 b2 b3 w
  simp only [Nat.reduceAdd] at q
  go_simp

set_option maxRecDepth 100000 in
theorem pbarren_any (x : Mk Nat) (w : World) : Calls Try.prog 56 #[.agg (gpc x)] w fun e w' => e = .returned (.bool (bz x)) ∧ Below w.heap.size w w' := by
  unfold bz gpc sw
  generalize x.run = r
  generalize (wj (ps x) 0 : Nat) = A0
  generalize (wj (ps x) 1 : Nat) = A1
  generalize (wj (ps x) 2 : Nat) = A2
  generalize (wj (ps x) 3 : Nat) = A3
  have z := Blk.new w 75 #[.bool r, .int .u64 A0, .int .u64 A1, .int .u64 A2, .int .u64 A3]
  obtain ⟨c0, c1, c2, c3, c4, -, -, -, -, -⟩ := cells5 z
  have HB : Hid (Below w.heap.size w (w.alloc (.cells #[.bool r, .int .u64 A0, .int .u64 A1, .int .u64 A2, .int .u64 A3] 75))) := Lib.hid ((Below.refl _ _).alloc (Nat.le_refl _) _)
  have he := fun W => eq4 A0 A1 A2 A3 0 0 0 0 W
  clear z
  cases r
  · go_enter Try.func56, Try.ntmps56
    go_wp2
    go_ret
    exact ⟨rfl, HB.out⟩
  · go_enter Try.func56, Try.ntmps56
    go_wp2
    go_ret
    exact ⟨rfl, HB.out⟩
end Go.Proofs.Ytaielamimkigmaa
