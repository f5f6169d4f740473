/-
  A manager is opened: whether its blocks can be so. Nothing of one statement alone stands here.
-/
import Derived.Test.YtnnpdlebgfjihaaNandNew
import Derived.Test.YtnnpdlebgfjihaaBlkNone
import Derived.Test.YtnnpdlebgfjihaaGcDoes
namespace Go.Proofs.Ytnnpdlebgfjihaa
open Go.RowKit Crcm Gcm Go.ChangeShapes

/-- what came in of each block: whether it is fresh, how much of it is needed -/
structure FrLv (w : World) (nb np : Nat) (f : Nat → Bool) (lv : Nat → Int) (fb fo lb lo : Nat) : Prop where
  fr : ∀ j, j < nb → w.cell? ⟨fb, fo + j, none⟩ = some (.bool (f j))
  li : ∀ j, j < nb → w.cell? ⟨lb, lo + j, none⟩ = some (.int .i64 (lv j))
  ok : ∀ j, j < nb → 0 ≤ lv j ∧ lv j ≤ np ∧ (f j = true → lv j = 0)
theorem FrLv.below {w w' : World} {nb np : Nat} {f : Nat → Bool} {lv : Nat → Int} {fb fo lb lo : Nat} (h : FrLv w nb np f lv fb fo lb lo) (hb : Below w.heap.size w w') : FrLv w' nb np f lv fb fo lb lo :=
  ⟨fun j hj => (hb.cell (p := ⟨fb, fo + j, none⟩) (block_lt_of_cell (h.fr j hj))).trans (h.fr j hj), fun j hj => (hb.cell (p := ⟨lb, lo + j, none⟩) (block_lt_of_cell (h.li j hj))).trans (h.li j hj), h.ok⟩

set_option maxRecDepth 100000 in
set_option maxHeartbeats 1000000 in
theorem openable_yes (nb np sz : Nat) (hn : nb < 129) (f : Nat → Bool) (lv : Nat → Int) (fb fo c1 lb lo c2 : Nat) (w : World) (h : FrLv w nb np f lv fb fo lb lo) :
    Calls Try.prog 54 #[.agg #[.int .i64 nb, .int .i64 np, .int .i64 sz], .slice (some ⟨fb, fo, none⟩) nb c1, .slice (some ⟨lb, lo, none⟩) nb c2] w fun e w' => e = .returned (.bool true) ∧ Below w.heap.size w w' := by
  have HH := Lib.hid h
  clear h
  go_enter Try.func54, Try.ntmps54
  go_wp2_with fail
  go_loopw [23] (fun i wr => ∃ k : Nat, k ≤ nb ∧ i = .int .i64 k ∧ wr = w.alloc (.cells #[.int .i64 nb, .int .i64 np, .int .i64 sz] 23)) (fun i _ => nb - (intOf i).toNat)
  case atStart => exact ⟨0, by omega, rfl, rfl⟩
  case round =>
    obtain ⟨k, hk, rfl, rfl⟩ := hrel
    by_cases hlt : k < nb
    · have d0 := cell_alloc (HH.out.fr k hlt) (.cells #[.int .i64 nb, .int .i64 np, .int .i64 sz] 23)
      have d1 := cell_alloc (HH.out.li k hlt) (.cells #[.int .i64 nb, .int .i64 np, .int .i64 sz] 23)
      obtain ⟨h0, h1, h2⟩ := HH.out.ok k hlt
      generalize f k = fk at d0 h2
      generalize lv k = x at d1 h0 h1 h2
      cases fk with
      | true =>
        have := h2 rfl
        subst this
        clear h2 h0
        go_wp2
        go_roundw
        case rel => exact ⟨k + 1, by omega, by go_num, trivial⟩
        case measure => simp [intOf]; omega
      | false =>
        clear h2
        go_wp2
        go_roundw
        case rel => exact ⟨k + 1, by omega, by go_num, trivial⟩
        case measure => simp [intOf]; omega
    · have : k = nb := by omega
      subst this
      go_wp2
      go_ret
      exact ⟨rfl, (Below.refl _ _).alloc (Nat.le_refl _) _⟩
end Go.Proofs.Ytnnpdlebgfjihaa
