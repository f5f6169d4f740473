/-
  The translation: its calls where a chip is down. Nothing of one statement alone stands here.
-/
import Derived.Test.YtbfifppdcmimaaaGreatFtB
import Derived.Test.YtbfifppdcmimaaaGreatFtA
namespace Go.Proofs.YtbfifppdcmimaaaGreat
open Go.RowKit Crcm Go.ChangeShapes

set_option maxRecDepth 100000 in
theorem fread_down {w : World} {X : Nat → Prop} {o : Own} {c : Ch} (h : ChAt w X o c) (hu : c.up = false) {F : Nat} (hF : w.cell? ⟨F, 0, none⟩ = some (.pointer (some ⟨o.bc, 0, none⟩))) {cap : Int} (hF4 : w.cell? ⟨F, 4, none⟩ = some (.int .i64 cap)) (p : Int) (hp : 0 ≤ p ∧ p < 4294967296) :
    Calls Tryz.prog 4 #[.pointer (some ⟨F, 0, none⟩), .int .u32 p] w fun e w' => e = .returned (.tuple #[.slice none 0 0, .int .i64 4]) ∧ w = w' := by
  have HU := Lib.hid (freach_any h hF hF4 p hp)
  unfold rcE at HU
  rw [hu, if_neg (by decide)] at HU
  clear h hF hF4 hu
  go_enter Tryz.func4, Tryz.ntmps4
  go_wp2_with fail
  refine HU.out.mono ?_
  rintro e w' ⟨rfl, rfl⟩
  go_wp2
  go_ret2
  exact ⟨rfl, rfl⟩
set_option maxRecDepth 100000 in
theorem fwrite_down {w : World} {X : Nat → Prop} {o : Own} {c : Ch} (h : ChAt w X o c) (hu : c.up = false) {F : Nat} (hF : w.cell? ⟨F, 0, none⟩ = some (.pointer (some ⟨o.bc, 0, none⟩))) {cap : Int} (hF4 : w.cell? ⟨F, 4, none⟩ = some (.int .i64 cap)) (p : Int) (a : Option Addr) (n cp : Nat) (hp : 0 ≤ p ∧ p < 4294967296) :
    Calls Tryz.prog 10 #[.pointer (some ⟨F, 0, none⟩), .int .u32 p, .slice a n cp] w fun e w' => e = .returned (.int .i64 4) ∧ w = w' := by
  have HU := Lib.hid (freach_any h hF hF4 p hp)
  unfold rcE at HU
  rw [hu, if_neg (by decide)] at HU
  clear h hF hF4 hu
  go_enter Tryz.func10, Tryz.ntmps10
  go_wp2_with fail
  refine HU.out.mono ?_
  rintro e w' ⟨rfl, rfl⟩
  go_wp2
  go_ret
  exact ⟨rfl, rfl⟩
set_option maxRecDepth 100000 in
theorem fdrop_down {w : World} {X : Nat → Prop} {o : Own} {c : Ch} (h : ChAt w X o c) (hu : c.up = false) {F : Nat} (hF : w.cell? ⟨F, 0, none⟩ = some (.pointer (some ⟨o.bc, 0, none⟩))) {cap : Int} (hF4 : w.cell? ⟨F, 4, none⟩ = some (.int .i64 cap)) (p : Int) (hp : 0 ≤ p ∧ p < 4294967296) :
    Calls Tryz.prog 11 #[.pointer (some ⟨F, 0, none⟩), .int .u32 p] w fun e w' => e = .returned (.int .i64 4) ∧ w = w' := by
  have HU := Lib.hid (freach_any h hF hF4 p hp)
  unfold rcE at HU
  rw [hu, if_neg (by decide)] at HU
  clear h hF hF4 hu
  go_enter Tryz.func11, Tryz.ntmps11
  go_wp2_with fail
  refine HU.out.mono ?_
  rintro e w' ⟨rfl, rfl⟩
  go_wp2
  go_ret
  exact ⟨rfl, rfl⟩
set_option maxRecDepth 100000 in
theorem fseal_down {w : World} {X : Nat → Prop} {o : Own} {c : Ch} (h : ChAt w X o c) (hu : c.up = false) {F : Nat} (hF : w.cell? ⟨F, 0, none⟩ = some (.pointer (some ⟨o.bc, 0, none⟩))) (a : Option Addr) (n cp : Nat) :
    Calls Tryz.prog 12 #[.pointer (some ⟨F, 0, none⟩), .slice a n cp] w fun e w' => e = .returned (.int .i64 4) ∧ w = w' := by
  have HU := Lib.hid (fup_any h hF)
  rw [hu, if_neg (by decide)] at HU
  clear h hF hu
  go_enter Tryz.func12, Tryz.ntmps12
  go_wp2_with fail
  refine HU.out.mono ?_
  rintro e w' ⟨rfl, rfl⟩
  go_wp2
  go_ret
  exact ⟨rfl, rfl⟩
set_option maxRecDepth 100000 in
theorem fopen_down {w : World} {X : Nat → Prop} {o : Own} {c : Ch} (h : ChAt w X o c) (hu : c.up = false) :
    Calls Tryz.prog 6 #[.pointer (some ⟨o.bc, 0, none⟩)] w fun e w' => e = .returned (.tuple #[.pointer none, .int .i64 4]) ∧ w = w' := by
  have HU := Lib.hid (up_any h)
  have hop : o.p = .pointer (some ⟨o.bc, 0, none⟩) := rfl
  rw [hop, hu] at HU
  clear h hu hop
  go_enter Tryz.func6, Tryz.ntmps6
  go_wp2_with fail
  refine HU.out.mono ?_
  rintro e w' ⟨rfl, rfl⟩
  go_wp2
  go_ret2
  exact ⟨rfl, rfl⟩
set_option maxRecDepth 100000 in
theorem fformat_down {w : World} {X : Nat → Prop} {o : Own} {c : Ch} (h : ChAt w X o c) (hu : c.up = false) (r : Int) (a : Option Addr) (n cp : Nat) :
    Calls Tryz.prog 5 #[.pointer (some ⟨o.bc, 0, none⟩), .int .i64 r, .slice a n cp] w fun e w' => e = .returned (.tuple #[.pointer none, .int .i64 4]) ∧ Below w.heap.size w w' := by
  have HG := Lib.hid (geo_any h)
  have HU := Lib.hid (fun W (hW : Below w.heap.size w W) => up_any (h.below hW))
  have hop : o.p = .pointer (some ⟨o.bc, 0, none⟩) := rfl
  rw [hop] at HG
  simp only [hop, hu] at HU
  clear h hu hop
  go_enter Tryz.func5, Tryz.ntmps5
  go_wp2_with fail
  refine HG.out.mono ?_
  rintro e w1 ⟨rfl, hb1⟩
  have hb2 := hb1.alloc hb1.size (.cells #[.int .i64 c.nb, .int .i64 c.np, .int .i64 c.sz] 38)
  have HU1 := Lib.hid (HU.out _ hb2)
  have HB := Lib.hid hb2
  clear hb1 hb2 HU HG
  go_wp2_with fail
  refine HU1.out.mono ?_
  rintro e w' ⟨rfl, rfl⟩
  go_wp2
  go_ret2
  exact ⟨rfl, HB.out⟩
end Go.Proofs.YtbfifppdcmimaaaGreat
