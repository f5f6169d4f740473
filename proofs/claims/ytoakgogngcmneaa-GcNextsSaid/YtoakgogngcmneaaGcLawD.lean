/-
  The statement on the next action.
-/
import Derived.Test.YtoakgogngcmneaaGcRefX
namespace Go.Proofs.Ytoakgogngcmneaa
open Go.RowKit Gcm Go.ChangeShapes

set_option maxRecDepth 100000 in
set_option maxHeartbeats 1000000 in
theorem is_any (x y : Int) (w : World) : Calls Try.prog 42 #[.agg #[.int .i64 x, .int .i64 y]] w fun e w' => e = .returned (.agg #[.int .i64 x, .int .i64 y]) ∧ Below w.heap.size w w' := by
  go_enter Try.func42, Try.ntmps42
  go_wp2
  exact bodyPost_ret (v := .agg #[.int .i64 x, .int .i64 y]) (by simp [results, Try.results42, go_sem]) rfl ⟨rfl, ((Below.refl _ w).alloc (Nat.le_refl _) _).alloc (by simp) _⟩

set_option maxRecDepth 100000 in
set_option maxHeartbeats 1000000 in
theorem gcNexts_walk (a : Option Addr) (n cap : Nat) (z : List Bk) (p : Int) (room : Bool) (w : World) (hz : RowG w a n cap z) (_hp : (Lit.int .i64 p).wf = true) :
    Calls Try.prog 9 #[.slice a n cap, .int .i64 p, .bool room] w fun e w' => e = .returned (.bool true) ∧ Below w.heap.size w w' := by
  obtain ⟨l, hl, -, hr⟩ := hz.rg
  have HLo := Lib.hid (fun w => long_any n a cap w)
  have A1 := Lib.hid (next_any l a cap n p room w hr hl)
  have A2 := Lib.hid (fun W (hb : Below w.heap.size w W) => refNext_any l a cap n p room W (hr.below hb) hl)
  generalize nxt l p room = x at A1 A2
  obtain ⟨kd, bk⟩ := x
  unfold av at A1 A2
  dsimp only at A1 A2
  clear hz _hp hr hl
  by_cases hlong : 150 < n
  · have t0 : decide (150 < n) = true := decide_eq_true hlong
    rw [t0] at HLo
    clear hlong t0
    go_enter Try.func9, Try.ntmps9
    go_wp2_with fail
    refine (HLo.out _).mono ?_
    rintro e w' ⟨rfl, rfl⟩
    go_wp2_with fail
    refine (known_any _).mono ?_
    rintro e w' ⟨rfl, hb⟩
    go_wp2
    go_ret
    exact ⟨rfl, hb⟩
  have t0 : decide (150 < n) = false := decide_eq_false hlong
  rw [t0] at HLo
  clear hlong t0
  go_enter Try.func9, Try.ntmps9
  go_wp2_with fail
  refine (HLo.out _).mono ?_
  rintro e w' ⟨rfl, rfl⟩
  go_wp2_with fail
  refine A1.out.mono ?_
  rintro e w1 ⟨rfl, hb⟩
  have B1 := Lib.hid hb
  clear hb
  go_wp2_with fail
  refine (is_any _ _ _).mono ?_
  rintro e w2 ⟨rfl, hb⟩
  have B2 := Lib.hid (B1.out.trans (hb.mono B1.out.size))
  clear hb
  go_wp2_with fail
  refine (A2.out _ B2.out).mono ?_
  rintro e w3 ⟨rfl, hb⟩
  have B3 := Lib.hid (B2.out.trans (hb.mono B2.out.size))
  clear hb
  go_wp2_with fail
  refine (known_any _).mono ?_
  rintro e w' ⟨rfl, hb⟩
  go_wp2
  go_ret
  exact ⟨rfl, B3.out.trans (hb.mono B3.out.size)⟩
end Go.Proofs.Ytoakgogngcmneaa
