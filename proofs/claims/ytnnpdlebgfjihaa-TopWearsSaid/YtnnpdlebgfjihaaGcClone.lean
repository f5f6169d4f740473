/-
  A row of blocks copied (the library's Clone), and one field of one block written over. Nothing of one statement alone stands here.
-/
import Derived.Test.YtnnpdlebgfjihaaGcOwn
import Derived.Test.YtnnpdlebgfjihaaGcBest
import Derived.RegionTactic
import Derived.Laws.StructEq
import Derived.Lib.SliceRun
namespace Gcm
/-- a block, one of its fields written over -/
def setf (b : Bk) : Nat → Int → Bk
  | 0, v => ⟨v, b.lv, b.wr, b.nx⟩
  | 1, v => ⟨b.st, v, b.wr, b.nx⟩
  | 2, v => ⟨b.st, b.lv, v, b.nx⟩
  | _, v => ⟨b.st, b.lv, b.wr, v⟩
end Gcm
namespace Go.Proofs.Ytnnpdlebgfjihaa
open Go.RowKit Gcm Go.ChangeShapes

set_option maxRecDepth 100000 in
set_option maxHeartbeats 1000000 in
theorem bclone_any (l : List Bk) (b off cap n : Nat) (w : World) (hc : ∀ j, j < l.length → At w b (off + j * 4) l[j]!) (hl : l.length = n) (h0 : 0 < n) (h1 : n ≤ 1000000) :
    Calls Try.prog 86 #[.slice (some ⟨b, off, none⟩) n cap] w fun e w' => ∃ g c, e = .returned (.slice (some ⟨g, 0, none⟩) n c) ∧ w.heap.size ≤ g ∧ n ≤ c ∧ OwnB w' g l ∧ Below w.heap.size w w' := by
  have q22 : ∀ (w : World) (a : Option Addr) (n c n' c' : Nat), (binOp .eql 57 (.slice a n c) (.slice none n' c')).run Try.prog w = .ok (.bool a.isNone) w := fun w a n c n' c' => Lib.run_eql_slice_nil w _ _ a n c n' c' Try.underlying57
  have HC := Lib.hid hc
  clear hc
  go_enter Try.func86, Try.ntmps86
  go_wp2_with (at_builtin; refine append_blocks rfl _ _ rfl w.heap.size _ rfl (World.ownsRow_made w #[] 0 (Nat.le_refl _) (Nat.zero_le _) (by simp)) b off n cap l rfl hl h0 h1 (fun j hj => at_below (HC.out j hj) ((Below.refl _ _).alloc (Nat.le_refl _) _)) (by simp) ?_)
  intro g c w' hO hg hcap hb
  go_wp2
  go_ret
  exact ⟨g, c, rfl, hg, hcap, hO, ((Below.refl _ w).alloc (Nat.le_refl _) _).trans hb⟩

theorem OwnB.putf {w : World} {g : Nat} {l : List Bk} (h : OwnB w g l) (k i : Nat) (hk : k < l.length) (hi : i < 4) (v : Int) : OwnB (w.setCell ⟨g, k * 4 + i, none⟩ (.int .i64 v)) g (l.set k (setf l[k]! i v)) := by
  obtain ⟨cur, h1, h2⟩ := h
  refine ⟨_, h1.put (k * 4 + i) (.int .i64 v), fun j hj => ?_⟩
  rw [List.length_set] at hj
  rw [set_getB l k j _ hj]
  obtain ⟨d0, d1, d2, d3⟩ := h2 k hk
  have s0 := (Array.getElem?_eq_some_iff.1 d0).1
  have s1 := (Array.getElem?_eq_some_iff.1 d1).1
  have s2 := (Array.getElem?_eq_some_iff.1 d2).1
  have s3 := (Array.getElem?_eq_some_iff.1 d3).1
  obtain ⟨c0, c1, c2, c3⟩ := h2 j hj
  simp only [Array.getElem?_setIfInBounds]
  by_cases e : k = j
  · subst e
    have e1 : (if k = k then setf l[k]! i v else l[k]!) = setf l[k]! i v := if_pos rfl
    rw [e1]
    obtain rfl | rfl | rfl | rfl : i = 0 ∨ i = 1 ∨ i = 2 ∨ i = 3 := by omega
    all_goals
      refine ⟨?_, ?_, ?_, ?_⟩
      all_goals first
        | (rw [if_neg (by omega)]; first | exact c0 | exact c1 | exact c2 | exact c3)
        | (rw [if_pos (by omega), if_pos (by omega)]; rfl)
  · rw [if_neg e]
    refine ⟨?_, ?_, ?_, ?_⟩
    · rw [if_neg (by omega)]; exact c0
    · rw [if_neg (by omega)]; exact c1
    · rw [if_neg (by omega)]; exact c2
    · rw [if_neg (by omega)]; exact c3
theorem OwnB.far {w : World} {g : Nat} {l : List Bk} (h : OwnB w g l) {p : Addr} (hp : g ≠ p.block) (u : Value) : OwnB (w.setCell p u) g l := by
  obtain ⟨cur, h1, h2⟩ := h
  exact ⟨cur, h1.far hp u, h2⟩
theorem OwnB.kp {w w' : World} {g : Nat} {l : List Bk} (h : OwnB w g l) (hk : w'.heap[g]? = w.heap[g]?) : OwnB w' g l := by
  obtain ⟨cur, h1, h2⟩ := h
  exact ⟨cur, hk.trans h1, h2⟩
end Go.Proofs.Ytnnpdlebgfjihaa
