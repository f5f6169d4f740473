/-
  The place of the first block of a row of which a predicate holds; the open block of a row. Nothing of one statement alone stands here.
-/
import Derived.Test.YtbfifppdcmimaaaGreatKI
namespace Gcm
open Go
def ixI (p : Bk → Bool) (l : List Bk) : Int := if l.findIdx p < l.length then (l.findIdx p : Int) else -1
theorem ixI_at {p : Bk → Bool} {l : List Bk} {k : Nat} (hk : k < l.length) (h1 : p l[k]! = true) (h2 : ∀ j, j < k → p l[j]! = false) : ixI p l = k := by
  have e : l.findIdx p = k := by
    rw [List.findIdx_eq hk]
    refine ⟨by rw [getElem!_pos l k hk] at h1; exact h1, fun j hj => ?_⟩
    have := h2 j hj
    rw [getElem!_pos l j (by omega)] at this
    exact this
  unfold ixI
  rw [e, if_pos hk]
theorem ixI_none {p : Bk → Bool} {l : List Bk} (h : ∀ j, j < l.length → p l[j]! = false) : ixI p l = -1 := by
  have e : ¬ l.findIdx p < l.length := by
    intro hlt
    have h1 := List.findIdx_getElem (w := hlt)
    have h2 := h _ hlt
    rw [getElem!_pos l _ hlt] at h2
    rw [h2] at h1; cases h1
  unfold ixI
  rw [if_neg e]
end Gcm
namespace Go.Proofs.YtbfifppdcmimaaaGreat
open Go.RowKit Gcm Go.ChangeShapes

set_option maxRecDepth 100000 in
set_option maxHeartbeats 400000 in
/-- the place of the first block of which a predicate holds -/
theorem indexFunc_ex (l : List Bk) (a : Option Addr) (cap n : Nat) (g : Nat) (lb : Array Value) (p : Bk → Bool) (w : World) (hr : Rg w a l) (hl : l.length = n)
    (eg : ∀ args w, (callFunc g args).run Tryz.prog w = .ok (.enter g args) w) (hp : PredOn g lb p l w) :
    Calls Tryz.prog 139 #[.slice a n cap, .func (.func g) #[] lb] w fun e w' => e = .returned (.int .i64 (ixI p l)) ∧ Below w.heap.size w w' := by
  obtain ⟨hz, hm, hc⟩ := hr
  unfold maxLen at hm
  clear hz
  have HP := Lib.hid hp
  have HL := Lib.hid hl
  have n1 : n ≤ 9223372036854775807 := by omega
  clear hp hl hm
  go_enter Tryz.func139, Tryz.ntmps139
  go_wp2_with fail
  go_loopw [5, 8] (fun _ i wr => ∃ k : Nat, k ≤ n ∧ i = .int .i64 k ∧ Below w.heap.size w wr ∧ Hid (∀ j, j < k → p l[j]! = false)) (fun _ i _ => n - (intOf i).toNat)
  case atStart => exact ⟨0, by omega, rfl, Below.refl _ _, Lib.hid fun j hj => absurd hj (Nat.not_lt_zero _)⟩
  case round =>
    obtain ⟨k, hk, rfl, hb, hN⟩ := hrel
    by_cases hlt : k < n
    · have hkl : k < l.length := by rw [HL.out]; exact hlt
      rcases hc with rfl | ⟨b, off, rfl, hc⟩
      · simp at hkl
      obtain ⟨c0, c1, c2, c3⟩ := at_below (hc k hkl) hb
      obtain ⟨y, hy⟩ : ∃ y, l[k]! = y := ⟨_, rfl⟩
      rw [hy] at c0 c1 c2 c3
      have HS := Lib.hid (pred_step HP.out hb k hkl y hy)
      have HY := Lib.hid hy
      have HB := Lib.hid hb
      clear hy hc hkl hb
      obtain ⟨st, lv, wr', nx⟩ := y
      cases hq : p ⟨st, lv, wr', nx⟩ with
      | true =>
        rw [hq] at HS
        have HQ := Lib.hid hq
        clear hq
        go_wp2_with fail
        refine HS.out.mono ?_
        rintro e w' ⟨rfl, hb2⟩
        go_wp2
        go_ret
        refine ⟨?_, HB.out.trans (hb2.mono HB.out.size)⟩
        rw [ixI_at (show k < l.length by rw [HL.out]; exact hlt) (by rw [HY.out]; exact HQ.out) hN.out]
        rfl
      | false =>
        rw [hq] at HS
        have HQ := Lib.hid hq
        clear hq
        go_wp2_with fail
        refine HS.out.mono ?_
        rintro e w' ⟨rfl, hb2⟩
        have HB2 := Lib.hid hb2
        clear hb2
        go_wp2
        go_roundw
        case rel =>
          refine ⟨k + 1, by omega, by go_num, HB.out.trans (HB2.out.mono HB.out.size), Lib.hid fun j hj => ?_⟩
          by_cases e : j = k
          · subst e; rw [HY.out]; exact HQ.out
          · exact hN.out j (by omega)
        case measure => simp [intOf]; omega
    · have : k = n := by omega
      subst this
      go_wp2
      go_ret
      refine ⟨?_, hb⟩
      rw [ixI_none (fun j hj => hN.out j (by rw [← HL.out]; exact hj))]
      rfl

set_option maxRecDepth 100000 in
set_option maxHeartbeats 400000 in
theorem isOpen_any (st lv wr nx : Int) (w : World) : Calls Tryz.prog 151 #[.agg #[.int .i64 st, .int .i64 lv, .int .i64 wr, .int .i64 nx]] w fun e w' => e = .returned (.bool (st == 1)) ∧ Below w.heap.size w w' := by
  have hB := Lib.hid ((Below.refl w.heap.size w).alloc (Nat.le_refl _) (.cells #[.int .i64 st, .int .i64 lv, .int .i64 wr, .int .i64 nx] 144))
  go_enter Tryz.func151, Tryz.ntmps151
  go_wp2
  go_ret
  exact ⟨rfl, hB.out⟩
theorem openIn_any (l : List Bk) (a : Option Addr) (cap n : Nat) (w : World) (hr : Rg w a l) (hl : l.length = n) :
    Calls Tryz.prog 128 #[.slice a n cap] w fun e w' => e = .returned (.int .i64 (ixI (fun y => y.st == 1) l)) ∧ Below w.heap.size w w' := by
  have HI := Lib.hid (indexFunc_ex l a cap n 151 #[] (fun y => y.st == 1) w hr hl (enters_go Tryz.func151 (by kernel_rfl) rfl) (fun W x _ _ => isOpen_any x.st x.lv x.wr x.nx W))
  clear hr hl
  go_enter Tryz.func128, Tryz.ntmps128
  go_wp2_with fail
  refine HI.out.mono ?_
  rintro e w' ⟨rfl, hb⟩
  go_wp2
  go_ret
  exact ⟨rfl, hb⟩
end Go.Proofs.YtbfifppdcmimaaaGreat
