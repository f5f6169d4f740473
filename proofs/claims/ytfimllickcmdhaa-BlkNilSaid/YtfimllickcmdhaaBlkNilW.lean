/-
  The statement on a manager that is not there.
-/
import Derived.Test.YtfimllickcmdhaaBlkAll0
import Derived.Test.YtfimllickcmdhaaBlkKnown
namespace Go.Proofs.Ytfimllickcmdhaa
open Go.RowKit Crcm Gcm Go.ChangeShapes

set_option maxRecDepth 100000 in
set_option maxHeartbeats 4000000 in
theorem blkNil_walk (k : Int) (a : Option Addr) (n c : Nat) (z : List Int) (w : World) (_hk : (Lit.int .i64 k).wf = true) (_hr : Row8 w a n c z) :
    Calls Try.prog 4 #[.int .i64 k, .slice a n c] w fun e w' => e = .returned (.bool true) ∧ Below w.heap.size w w' := by
  have HPr := Lib.hid (fun W => bnil_program W a n c)
  have HOp := Lib.hid (fun W => bnil_open W (.slice none 0 0) (.slice none 0 0) 0 0)
  have HNx := Lib.hid (fun W => bnil_next W)
  have HDr := Lib.hid (fun W => bnil_drop W k)
  have HEr := Lib.hid (fun W => bnil_erase W k)
  have HRe := Lib.hid (fun W => bnil_retire W k)
  have HRm := Lib.hid (fun W => bnil_room W)
  have HFr := Lib.hid (fun W => bnil_free W)
  have HLf := Lib.hid (fun W => bnil_left W)
  have HAl := Lib.hid (fun W => all0_any W)
  have HKn := Lib.hid (fun W => knownB_any W)
  clear _hk _hr
  go_enter Try.func4, Try.ntmps4
  go_wp2_with fail
  refine (HPr.out _).mono ?_
  rintro r w' ⟨rfl, rfl⟩
  go_wp2_with fail
  refine (HOp.out _).mono ?_
  rintro r w' ⟨rfl, rfl⟩
  go_wp2_with fail
  refine (HNx.out _).mono ?_
  rintro r w1 ⟨rfl, hb1⟩
  have B1 := Lib.hid (hb1.alloc hb1.size (.cells #[.int .i64 0, .int .i64 (-1)] 53))
  clear hb1
  go_wp2_with fail
  refine (HDr.out _).mono ?_
  rintro r w' ⟨rfl, rfl⟩
  go_wp2_with fail
  refine (HEr.out _).mono ?_
  rintro r w' ⟨rfl, rfl⟩
  go_wp2_with fail
  refine (HRe.out _).mono ?_
  rintro r w' ⟨rfl, rfl⟩
  go_wp2_with fail
  refine (HRm.out _).mono ?_
  rintro r w' ⟨rfl, rfl⟩
  go_wp2_with fail
  refine (HFr.out _).mono ?_
  rintro r w' ⟨rfl, rfl⟩
  go_wp2_with fail
  refine (HLf.out _).mono ?_
  rintro r w' ⟨rfl, rfl⟩
  go_wp2_with fail
  refine (HAl.out _).mono ?_
  rintro r w2 ⟨rfl, hb2⟩
  have B2 := Lib.hid (B1.out.trans (hb2.mono B1.out.size))
  clear hb2
  go_wp2_with fail
  refine (HKn.out _).mono ?_
  rintro r w3 ⟨rfl, hb3⟩
  have B3 := Lib.hid (B2.out.trans (hb3.mono B2.out.size))
  clear hb3
  go_wp2
  go_ret
  exact ⟨rfl, B3.out⟩
end Go.Proofs.Ytfimllickcmdhaa
