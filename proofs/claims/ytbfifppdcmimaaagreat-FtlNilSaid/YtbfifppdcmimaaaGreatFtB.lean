/-
  The translation: its small calls. Nothing of one statement alone stands here.
-/
import Derived.Test.YtbfifppdcmimaaaGreatFtTl
namespace Go.Proofs.YtbfifppdcmimaaaGreat
open Go.RowKit Crcm Go.ChangeShapes

set_option maxRecDepth 100000 in
theorem fup_any {w : World} {X : Nat → Prop} {o : Own} {c : Ch} (h : ChAt w X o c) {F : Nat} (hF : w.cell? ⟨F, 0, none⟩ = some (.pointer (some ⟨o.bc, 0, none⟩))) :
    Calls Tryz.prog 44 #[.pointer (some ⟨F, 0, none⟩)] w fun e w' => e = .returned (.int .i64 (if c.up = true then 0 else 4)) ∧ w = w' := by
  have HU := Lib.hid (up_any h)
  have hop : o.p = .pointer (some ⟨o.bc, 0, none⟩) := rfl
  rw [hop] at HU
  clear h hop
  cases hc : c.up
  · rw [hc] at HU
    go_enter Tryz.func44, Tryz.ntmps44
    go_wp2_with fail
    refine HU.out.mono ?_
    rintro e w' ⟨rfl, rfl⟩
    go_wp2
    go_ret
    exact ⟨rfl, rfl⟩
  · rw [hc] at HU
    go_enter Tryz.func44, Tryz.ntmps44
    go_wp2_with fail
    refine HU.out.mono ?_
    rintro e w' ⟨rfl, rfl⟩
    go_wp2
    go_ret
    exact ⟨rfl, rfl⟩

/-- what a page that is asked for answers -/
def rcE (up : Bool) (cap p : Int) : Int := if up = true then (if p = 0 ∨ cap ≤ p then 1 else 0) else 4
set_option maxRecDepth 100000 in
theorem freach_any {w : World} {X : Nat → Prop} {o : Own} {c : Ch} (h : ChAt w X o c) {F : Nat} (hF : w.cell? ⟨F, 0, none⟩ = some (.pointer (some ⟨o.bc, 0, none⟩))) {cap : Int} (hF4 : w.cell? ⟨F, 4, none⟩ = some (.int .i64 cap)) (p : Int) (hp : 0 ≤ p ∧ p < 4294967296) :
    Calls Tryz.prog 18 #[.pointer (some ⟨F, 0, none⟩), .int .u32 p] w fun e w' => e = .returned (.int .i64 (rcE c.up cap p)) ∧ w = w' := by
  have HU := Lib.hid (fup_any h hF)
  clear h hF
  unfold rcE
  cases hc : c.up
  · rw [hc, if_neg (by decide)] at HU
    rw [if_neg (by decide)]
    go_enter Tryz.func18, Tryz.ntmps18
    go_wp2_with fail
    refine HU.out.mono ?_
    rintro e w' ⟨rfl, rfl⟩
    go_wp2
    go_ret
    exact ⟨rfl, rfl⟩
  · rw [hc, if_pos rfl] at HU
    rw [if_pos rfl]
    by_cases h0 : p = 0
    · subst h0
      rw [if_pos (.inl rfl)]
      go_enter Tryz.func18, Tryz.ntmps18
      go_wp2_with fail
      refine HU.out.mono ?_
      rintro e w' ⟨rfl, rfl⟩
      go_wp2
      go_ret
      exact ⟨rfl, rfl⟩
    · have t0 : (p == 0) = false := beq_eq_false_iff_ne.2 h0
      by_cases h1 : cap ≤ p
      · have t1 : decide (cap ≤ p) = true := decide_eq_true h1
        rw [if_pos (.inr h1)]
        go_enter Tryz.func18, Tryz.ntmps18
        go_wp2_with fail
        refine HU.out.mono ?_
        rintro e w' ⟨rfl, rfl⟩
        go_wp2
        go_ret
        exact ⟨rfl, rfl⟩
      · have t1 : decide (cap ≤ p) = false := decide_eq_false h1
        rw [if_neg (fun q => q.elim h0 h1)]
        go_enter Tryz.func18, Tryz.ntmps18
        go_wp2_with fail
        refine HU.out.mono ?_
        rintro e w' ⟨rfl, rfl⟩
        go_wp2
        go_ret
        exact ⟨rfl, rfl⟩
set_option maxRecDepth 100000 in
theorem fcapacity_any {w : World} {F : Nat} {cap : Int} (hF4 : w.cell? ⟨F, 4, none⟩ = some (.int .i64 cap)) :
    Calls Tryz.prog 15 #[.pointer (some ⟨F, 0, none⟩)] w fun e w' => e = .returned (.int .i64 cap) ∧ w = w' := by
  go_enter Tryz.func15, Tryz.ntmps15
  go_wp2
  go_ret
  exact ⟨rfl, rfl⟩
end Go.Proofs.YtbfifppdcmimaaaGreat
