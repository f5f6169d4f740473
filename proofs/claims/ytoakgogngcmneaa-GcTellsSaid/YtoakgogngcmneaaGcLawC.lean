/-
  The statement on what is told of a row of blocks.
-/
import Derived.Test.YtoakgogngcmneaaGcRefM
import Derived.Test.YtoakgogngcmneaaGcKnown
namespace Go.Proofs.Ytoakgogngcmneaa
open Go.RowKit Gcm Go.ChangeShapes

set_option maxRecDepth 100000 in
set_option maxHeartbeats 1000000 in
theorem gcTells_walk (a : Option Addr) (n cap : Nat) (z : List Bk) (p s k : Int) (w : World) (hz : RowG w a n cap z) (_hp : (Lit.int .i64 p).wf = true) (_hs : (Lit.int .i64 s).wf = true) (_hk : (Lit.int .i64 k).wf = true) :
    Calls Try.prog 8 #[.slice a n cap, .int .i64 p, .int .i64 s, .int .i64 k] w fun e w' => e = .returned (.bool true) ∧ Below w.heap.size w w' := by
  obtain ⟨l, hl, -, hr⟩ := hz.rg
  have HLo := Lib.hid (fun w => long_any n a cap w)
  have A1 := Lib.hid (fun W (hb : Below w.heap.size w W) => right_any l a cap n p W (hr.below hb) hl)
  have A2 := Lib.hid (fun W (hb : Below w.heap.size w W) => refRight_any l a cap n p W (hr.below hb) hl)
  have A3 := Lib.hid (fun W (hb : Below w.heap.size w W) => least_any l a cap n W (hr.below hb) hl)
  have A4 := Lib.hid (fun W (hb : Below w.heap.size w W) => refLeast_any l a cap n W (hr.below hb) hl)
  have A5 := Lib.hid (fun W (hb : Below w.heap.size w W) => greatest_any l a cap n W (hr.below hb) hl)
  have A6 := Lib.hid (fun W (hb : Below w.heap.size w W) => refGreatest_any l a cap n W (hr.below hb) hl)
  have A7 := Lib.hid (fun W (hb : Below w.heap.size w W) => count_any l a cap n s W (hr.below hb) hl)
  have A8 := Lib.hid (fun W (hb : Below w.heap.size w W) => refCount_any l a cap n s W (hr.below hb) hl)
  have A9 := Lib.hid (fun W (hb : Below w.heap.size w W) => live_any l a cap n W (hr.below hb) hl)
  have A10 := Lib.hid (fun W (hb : Below w.heap.size w W) => refLive_any l a cap n W (hr.below hb) hl)
  have A11 := Lib.hid (fun W (hb : Below w.heap.size w W) => may_any l a cap n p k W (hr.below hb) hl)
  have A12 := Lib.hid (fun W (hb : Below w.heap.size w W) => refMay_any l a cap n p k W (hr.below hb) hl)
  generalize decide (Rt l p) = x1 at A1 A2
  generalize least l = x2 at A3 A4
  generalize greatest l = x3 at A5 A6
  generalize cnt s l n = x4 at A7 A8
  generalize lvs l n = x5 at A9 A10
  generalize mayAt l p k = x6 at A11 A12
  clear hz _hp _hs _hk hr hl
  by_cases hlong : 150 < n
  · have t0 : decide (150 < n) = true := decide_eq_true hlong
    rw [t0] at HLo
    clear hlong t0
    go_enter Try.func8, Try.ntmps8
    go_wp2_with fail
    refine (HLo.out _).mono ?_
    rintro e w' ⟨rfl, rfl⟩
    go_wp2_with fail
    refine (known_any _).mono ?_
    rintro e w' ⟨rfl, hb⟩
    go_wp2
    go_ret
    exact ⟨rfl, hb⟩
  have t0 : decide (150 < n) = false := decide_eq_false hlong
  rw [t0] at HLo
  clear hlong t0
  go_enter Try.func8, Try.ntmps8
  go_wp2_with fail
  refine (HLo.out _).mono ?_
  rintro e w' ⟨rfl, rfl⟩
  go_wp2_with fail
  refine (A1.out _ (Below.refl _ _)).mono ?_
  rintro e w1 ⟨rfl, hb⟩
  have B1 := Lib.hid hb
  clear hb
  go_wp2_with fail
  refine (A2.out _ B1.out).mono ?_
  rintro e w2 ⟨rfl, hb⟩
  have B2 := Lib.hid (B1.out.trans (hb.mono B1.out.size))
  clear hb
  go_wp2_with fail
  refine (A3.out _ B2.out).mono ?_
  rintro e w3 ⟨rfl, hb⟩
  have B3 := Lib.hid (B2.out.trans (hb.mono B2.out.size))
  clear hb
  go_wp2_with fail
  refine (A4.out _ B3.out).mono ?_
  rintro e w4 ⟨rfl, rfl⟩
  have B4 := B3
  go_wp2_with fail
  refine (A5.out _ B4.out).mono ?_
  rintro e w5 ⟨rfl, hb⟩
  have B5 := Lib.hid (B4.out.trans (hb.mono B4.out.size))
  clear hb
  go_wp2_with fail
  refine (A6.out _ B5.out).mono ?_
  rintro e w6 ⟨rfl, rfl⟩
  have B6 := B5
  go_wp2_with fail
  refine (A7.out _ B6.out).mono ?_
  rintro e w7 ⟨rfl, hb⟩
  have B7 := Lib.hid (B6.out.trans (hb.mono B6.out.size))
  clear hb
  go_wp2_with fail
  refine (A8.out _ B7.out).mono ?_
  rintro e w8 ⟨rfl, rfl⟩
  have B8 := B7
  go_wp2_with fail
  refine (A9.out _ B8.out).mono ?_
  rintro e w9 ⟨rfl, hb⟩
  have B9 := Lib.hid (B8.out.trans (hb.mono B8.out.size))
  clear hb
  go_wp2_with fail
  refine (A10.out _ B9.out).mono ?_
  rintro e w10 ⟨rfl, rfl⟩
  have B10 := B9
  go_wp2_with fail
  refine (A11.out _ B10.out).mono ?_
  rintro e w11 ⟨rfl, hb⟩
  have B11 := Lib.hid (B10.out.trans (hb.mono B10.out.size))
  clear hb
  go_wp2_with fail
  refine (A12.out _ B11.out).mono ?_
  rintro e w12 ⟨rfl, hb⟩
  have B12 := Lib.hid (B11.out.trans (hb.mono B11.out.size))
  clear hb
  go_wp2_with fail
  refine (known_any _).mono ?_
  rintro e w' ⟨rfl, hb⟩
  go_wp2
  go_ret
  exact ⟨rfl, B12.out.trans (hb.mono B12.out.size)⟩
end Go.Proofs.Ytoakgogngcmneaa
