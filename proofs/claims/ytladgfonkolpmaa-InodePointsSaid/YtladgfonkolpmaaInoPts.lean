/-
  Two boxes that hold two rows of numbers of the call's own, appended to in turn.
-/
import Derived.Test.YtladgfonkolpmaaInoSeq
import Derived.Test.YtladgfonkolpmaaAmongB
import Derived.RangeFuncNested
import Derived.RangeFuncCalls
import Derived.RangeFuncWrites
import Derived.Maps.OwnIn
import Derived.WalkMore
namespace Go.Proofs.Ytladgfonkolpmaa
open Go.RowKit Go.Shelf Crcm Tagm Inom Go.ChangeShapes

theorem box_step {W w1 : World} {n₀ B B2 k k2 m : Nat} {v v' v2 : Value} {xs xs' ys : List Value} {tmp : Obj} (hv : Boxed W B 31 v) (hr : W.ownsRow n₀ 3 1 v k xs)
    (hv2 : Boxed W B2 31 v2) (hr2 : W.ownsRow n₀ 3 1 v2 k2 ys) (hD : ∀ r, v.ownBlock = some r → v2.ownBlock ≠ some r) (hBB : B ≠ B2) (hB : B < n₀) (hn : n₀ ≤ W.heap.size)
    (hown' : w1.ownsRow n₀ 3 1 v' m xs') (hg : (W.alloc tmp).grownBy w1 v.ownBlock) (hl : v'.ownBlock = v.ownBlock ∨ v'.ownBlock = some (W.alloc tmp).heap.size) :
    Boxed w1 B 31 v ∧ Boxed (w1.setCell ⟨B, 0, none⟩ v') B 31 v' ∧ (w1.setCell ⟨B, 0, none⟩ v').ownsRow n₀ 3 1 v' m xs' ∧ Boxed (w1.setCell ⟨B, 0, none⟩ v') B2 31 v2 ∧
      (w1.setCell ⟨B, 0, none⟩ v').ownsRow n₀ 3 1 v2 k2 ys ∧ (∀ r, v'.ownBlock = some r → v2.ownBlock ≠ some r) ∧ KeepsOthers W (w1.setCell ⟨B, 0, none⟩ v') ∧
      (∀ g, g < n₀ → g ≠ B → (w1.setCell ⟨B, 0, none⟩ v').heap[g]? = W.heap[g]?) ∧ Below B W (w1.setCell ⟨B, 0, none⟩ v') := by
  have hte : 31 ≠ 3 := by decide
  have hv1 : Boxed w1 B 31 v := (hv.alloc tmp).kept hg (hv.not_row hte hr)
  have hv21 : Boxed w1 B2 31 v2 := (hv2.alloc tmp).kept hg (hv2.not_row hte hr)
  have hrow : ∀ j, v.ownBlock = some j → n₀ ≤ j ∧ j < W.heap.size := fun j ej => hr.lt j ej
  have hr21 : w1.ownsRow n₀ 3 1 v2 k2 ys := (hr2.alloc tmp).kept hg (by
    rcases hv2b : v2.ownBlock with _ | r
    · exact .inl rfl
    · exact .inr fun e => hD r e.symm hv2b)
  have hsame : ∀ g, g < n₀ → g ≠ B → (w1.setCell ⟨B, 0, none⟩ v').heap[g]? = W.heap[g]? := fun g hg1 hg2 =>
    (Below.heap_setCell w1 ⟨B, 0, none⟩ v' g hg2).trans ((hg.block g (by simp; omega) (fun e => by have := (hrow g e.symm).1; omega)).trans (Below.heap_alloc W tmp g (by omega)))
  refine ⟨hv1, hv1.set v', hown'.kept (grownBy_setCell' w1 B v') (.inr (hv1.not_row hte hown').symm), hv21.other hBB.symm v', hr21.kept (grownBy_setCell' w1 B v') (.inr (hv1.not_row hte hr21).symm), ?_, ?_, hsame, ?_⟩
  · rcases hl with e | e
    · rw [e]; exact hD
    · rw [e]
      intro r hr' h2
      injection hr' with hr'
      have := (hr2.lt r h2).2
      simp at hr'
      omega
  · refine ((KeepsOthers.alloc W tmp).trans (KeepsOthers.of_grownBy hg fun j o ej hj => ?_)).trans (KeepsOthers.setCell _ _ _)
    rcases (hr.alloc tmp).2 with ⟨rfl, _⟩ | ⟨g, cap, cur, rfl, _, hgb, _⟩
    · simp [Value.ownBlock] at ej
    · obtain rfl : g = j := by simpa [Value.ownBlock] using ej
      rw [hgb] at hj; cases hj; rfl
  · exact (((Below.refl B W).alloc (by omega) tmp).grown hg (by simp; omega) fun j ej => by have := (hrow j ej).1; omega).setCell (p := ⟨B, 0, none⟩) (Nat.le_refl _) v'

/-- the two boxes and their rows -/
def Two (n₀ g1 g2 : Nat) (s : List (Int × Int)) (W : World) : Prop := ∃ v1 v2, Boxed W g1 31 v1 ∧ W.ownsRow n₀ 3 1 v1 s.length (s.map fun p => Value.int .i64 p.1) ∧
  Boxed W g2 31 v2 ∧ W.ownsRow n₀ 3 1 v2 s.length (s.map fun p => Value.int .i64 p.2) ∧ ∀ r, v1.ownBlock = some r → v2.ownBlock ≠ some r
theorem two_own {β : Type} (n₀ g1 g2 : Nat) (f : β → List (Int × Int)) : Own (fun (s : β) W => Two n₀ g1 g2 (f s) W) := by
  rintro s X Y row ⟨v1, v2, h1, r1, h2, r2, hD⟩ hg hrow
  obtain ⟨u1, hb1, hr1, e1⟩ := holdsRow_own n₀ g1 31 3 1 (fun s : List (Int × Int) => s.length) (fun s => s.map fun p => Value.int .i64 p.1) (fun _ u => u = v1) (f s) X Y row ⟨v1, h1, r1, rfl⟩ hg hrow
  obtain ⟨u2, hb2, hr2, e2⟩ := holdsRow_own n₀ g2 31 3 1 (fun s : List (Int × Int) => s.length) (fun s => s.map fun p => Value.int .i64 p.2) (fun _ u => u = v2) (f s) X Y row ⟨v2, h2, r2, rfl⟩ hg hrow
  obtain rfl : u1 = v1 := e1
  obtain rfl : u2 = v2 := e2
  exact ⟨_, _, hb1, hr1, hb2, hr2, hD⟩

end Go.Proofs.Ytladgfonkolpmaa
