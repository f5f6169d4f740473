/-
  Whether an inode is right: the document's answer; its eight pointers in a row.
-/
import Derived.Test.YtolahkfjlifnoaaInoWrite
namespace Go.Proofs.Ytolahkfjlifnoaa
open Go.RowKit Crcm Tagm Inom Go.ChangeShapes

theorem Blk.eight {w : World} {g : Nat} {t : TypeId} {a0 a1 a2 a3 a4 a5 a6 a7 : Value} (h : Blk w g t #[a0, a1, a2, a3, a4, a5, a6, a7]) :
    w.cell? ⟨g, 0, none⟩ = some a0 ∧ w.cell? ⟨g, 1, none⟩ = some a1 ∧ w.cell? ⟨g, 2, none⟩ = some a2 ∧ w.cell? ⟨g, 3, none⟩ = some a3 ∧ w.cell? ⟨g, 4, none⟩ = some a4 ∧ w.cell? ⟨g, 5, none⟩ = some a5 ∧ w.cell? ⟨g, 6, none⟩ = some a6 ∧ w.cell? ⟨g, 7, none⟩ = some a7 :=
  ⟨h.cell 0, h.cell 1, h.cell 2, h.cell 3, h.cell 4, h.cell 5, h.cell 6, h.cell 7⟩

set_option maxRecDepth 100000 in
set_option maxHeartbeats 1000000 in
theorem refptrs_any (i : Ind) (w : World) : Calls Try.prog 60 #[iv i] w fun e w' => (∃ g, e = .returned (.slice (some ⟨g, 0, none⟩) 8 8) ∧ w.heap.size ≤ g ∧ Blk w' g 3 #[.int .i64 i.d0, .int .i64 i.d1, .int .i64 i.d2, .int .i64 i.d3, .int .i64 i.d4, .int .i64 i.d5, .int .i64 i.sg, .int .i64 i.db]) ∧ Below w.heap.size w w' := by
  unfold iv
  go_enter Try.func60, Try.ntmps60
  go_wp2
  go_ret
  refine ⟨⟨_, rfl, Nat.le_trans (Nat.le_succ _) (Nat.le_succ _), by first | exact Blk.new _ _ _ | (have := Blk.new ((w.alloc (.cells #[.int .i64 i.k, .int .i64 i.l, .int .i64 i.s, .int .i64 i.d0, .int .i64 i.d1, .int .i64 i.d2, .int .i64 i.d3, .int .i64 i.d4, .int .i64 i.d5, .int .i64 i.sg, .int .i64 i.db] 24)).alloc (.cells #[.int .i64 i.d0, .int .i64 i.d1, .int .i64 i.d2, .int .i64 i.d3, .int .i64 i.d4, .int .i64 i.d5] 22)) 3 #[.int .i64 i.d0, .int .i64 i.d1, .int .i64 i.d2, .int .i64 i.d3, .int .i64 i.d4, .int .i64 i.d5, .int .i64 i.sg, .int .i64 i.db]; simpa using this)⟩, ?_⟩
  exact (((Below.refl _ _).alloc (Nat.le_refl _) _).alloc (by simp) _).alloc (by simp; omega) _

theorem ret_b {a b : Bool} (h : b = a) : Ending.returned (.bool a) = .returned (.bool b) := by rw [h]

set_option maxRecDepth 100000 in
set_option maxHeartbeats 2000000 in
theorem refright_zero (i : Ind) (w : World) (h : i.k = 0) :
    Calls Try.prog 23 #[iv i] w fun e w' => e = .returned (.bool (decide (IR i))) ∧ Below w.heap.size w w' := by
  have HE := fun w => ieq i zi w
  rw [IR_none (by omega) (by omega)]
  generalize decide (i = zi) = B at HE ⊢
  obtain ⟨k, l, s, d0, d1, d2, d3, d4, d5, sg, db⟩ := i
  simp only at h
  subst h
  unfold iv zi at HE
  unfold iv
  go_enter Try.func23, Try.ntmps23
  go_wp2
  go_ret
  exact ⟨rfl, (Below.refl _ _).alloc (Nat.le_refl _) _⟩

set_option maxRecDepth 100000 in
set_option maxHeartbeats 2000000 in
theorem refright_early (k l s d0 d1 d2 d3 d4 d5 sg db : Int) (w : World) (h0 : k ≠ 0) (h : ¬ (((k = 1 ∨ k = 2) ∧ 0 ≤ l ∧ l ≤ 1000) ∧ 0 ≤ s ∧ s ≤ 2147483647)) :
    Calls Try.prog 23 #[iv ⟨k, l, s, d0, d1, d2, d3, d4, d5, sg, db⟩] w fun e w' => e = .returned (.bool false) ∧ Below w.heap.size w w' := by
  have e0 : (k == 0) = false := by simpa using h0
  unfold iv
  by_cases hk : k = 1 ∨ k = 2
  · by_cases hl0 : l < 0
    · rcases hk with rfl | rfl
      all_goals
        clear h h0 e0
        go_enter Try.func23, Try.ntmps23
        go_wp2
        go_ret
        exact ⟨rfl, (Below.refl _ _).alloc (Nat.le_refl _) _⟩
    by_cases hl1 : 1000 < l
    · rcases hk with rfl | rfl
      all_goals
        clear h h0 e0
        go_enter Try.func23, Try.ntmps23
        go_wp2
        go_ret
        exact ⟨rfl, (Below.refl _ _).alloc (Nat.le_refl _) _⟩
    by_cases hs0 : s < 0
    · rcases hk with rfl | rfl
      all_goals
        clear h h0 e0
        go_enter Try.func23, Try.ntmps23
        go_wp2
        go_ret
        exact ⟨rfl, (Below.refl _ _).alloc (Nat.le_refl _) _⟩
    · have hs1 : 2147483647 < s := by
        by_cases g : 2147483647 < s
        · exact g
        · exact absurd ⟨⟨hk, by omega, by omega⟩, by omega, by omega⟩ h
      rcases hk with rfl | rfl
      all_goals
        clear h h0 e0
        go_enter Try.func23, Try.ntmps23
        go_wp2
        go_ret
        exact ⟨rfl, (Below.refl _ _).alloc (Nat.le_refl _) _⟩
  · have e1 : (k == 1) = false := by simp; omega
    have e2 : (k == 2) = false := by simp; omega
    have e3 : (k != 1) = true := by simp; omega
    have e4 : (k != 2) = true := by simp; omega
    clear h h0 hk
    go_enter Try.func23, Try.ntmps23
    go_wp2
    go_ret
    exact ⟨rfl, (Below.refl _ _).alloc (Nat.le_refl _) _⟩

set_option maxRecDepth 100000 in
set_option maxHeartbeats 16000000 in
theorem refright_loop (k l s d0 d1 d2 d3 d4 d5 sg db : Int) (w : World) (h : k = 1 ∨ k = 2) (hl0 : 0 ≤ l) (hl1 : l ≤ 1000) (hs0 : 0 ≤ s) (hs1 : s ≤ 2147483647) :
    Calls Try.prog 23 #[iv ⟨k, l, s, d0, d1, d2, d3, d4, d5, sg, db⟩] w fun e w' => e = .returned (.bool (decide (Pt d0 ∧ Pt d1 ∧ Pt d2 ∧ Pt d3 ∧ Pt d4 ∧ Pt d5 ∧ Pt sg ∧ Pt db))) ∧ Below w.heap.size w w' := by
  obtain ⟨B, hB⟩ : ∃ B, B = decide (Pt d0 ∧ Pt d1 ∧ Pt d2 ∧ Pt d3 ∧ Pt d4 ∧ Pt d5 ∧ Pt sg ∧ Pt db) := ⟨_, rfl⟩
  rw [← hB]
  have HN : Hid (¬ (Pt d0 ∧ Pt d1 ∧ Pt d2 ∧ Pt d3 ∧ Pt d4 ∧ Pt d5 ∧ Pt sg ∧ Pt db) → B = false) := Lib.hid (fun g => by rw [hB]; exact decide_eq_false g)
  have HY : Hid ((Pt d0 ∧ Pt d1 ∧ Pt d2 ∧ Pt d3 ∧ Pt d4 ∧ Pt d5 ∧ Pt sg ∧ Pt db) → B = true) := Lib.hid (fun g => by rw [hB]; exact decide_eq_true g)
  clear hB
  have HP := Lib.hid (fun w => refptrs_any ⟨k, l, s, d0, d1, d2, d3, d4, d5, sg, db⟩ w)
  unfold iv at *
  rcases h with rfl | rfl
  all_goals
    go_enter Try.func23, Try.ntmps23
    go_wp2_with fail
    refine (HP.out _).mono ?_
    rintro e w1 ⟨⟨g, rfl, -, hg⟩, hb⟩
    have HB := Lib.hid (((Below.refl w.heap.size w).alloc (Nat.le_refl _) _).trans (hb.mono (by simp)))
    obtain ⟨c0, c1, c2, c3, c4, c5, c6, c7⟩ := hg.eight
    clear hg hb HP
    go_wp2_with fail
    go_loop [4] (fun i => ∃ n : Nat, n ≤ 8 ∧ i = .int .i64 n ∧ Hid ((0 < n → Pt d0) ∧ (1 < n → Pt d1) ∧ (2 < n → Pt d2) ∧ (3 < n → Pt d3) ∧ (4 < n → Pt d4) ∧ (5 < n → Pt d5) ∧ (6 < n → Pt sg) ∧ (7 < n → Pt db))) (fun i => 8 - (intOf i).toNat)
    case atStart => exact ⟨0, by omega, rfl, Lib.hid ⟨by omega, by omega, by omega, by omega, by omega, by omega, by omega, by omega⟩⟩
    case round =>
      obtain ⟨n, hn, rfl, hp⟩ := hrel
      have hc : n = 0 ∨ n = 1 ∨ n = 2 ∨ n = 3 ∨ n = 4 ∨ n = 5 ∨ n = 6 ∨ n = 7 ∨ n = 8 := by omega
      rcases hc with rfl | rfl | rfl | rfl | rfl | rfl | rfl | rfl | rfl
      · by_cases h0 : d0 < 0
        · have HQ : Hid (B = false) := Lib.hid (HN.out fun hs => by have h1 := (hs.1).1; omega)
          go_wp2
          go_ret
          exact ⟨ret_b HQ.out, HB.out⟩
        by_cases h1 : 8191 < d0
        · have HQ : Hid (B = false) := Lib.hid (HN.out fun hs => by have h1 := (hs.1).2; omega)
          go_wp2
          go_ret
          exact ⟨ret_b HQ.out, HB.out⟩
        · have HQ : Hid (Pt d0) := Lib.hid ⟨by omega, by omega⟩
          go_wp2
          go_round
          case rel => exact ⟨1, by omega, rfl, Lib.hid ⟨fun _ => HQ.out, by omega, by omega, by omega, by omega, by omega, by omega, by omega⟩⟩
          case measure => simp [intOf]
      · by_cases h0 : d1 < 0
        · have HQ : Hid (B = false) := Lib.hid (HN.out fun hs => by have h1 := (hs.2.1).1; omega)
          go_wp2
          go_ret
          exact ⟨ret_b HQ.out, HB.out⟩
        by_cases h1 : 8191 < d1
        · have HQ : Hid (B = false) := Lib.hid (HN.out fun hs => by have h1 := (hs.2.1).2; omega)
          go_wp2
          go_ret
          exact ⟨ret_b HQ.out, HB.out⟩
        · have HQ : Hid (Pt d1) := Lib.hid ⟨by omega, by omega⟩
          go_wp2
          go_round
          case rel => exact ⟨2, by omega, rfl, Lib.hid ⟨fun _ => hp.out.1 (by omega), fun _ => HQ.out, by omega, by omega, by omega, by omega, by omega, by omega⟩⟩
          case measure => simp [intOf]
      · by_cases h0 : d2 < 0
        · have HQ : Hid (B = false) := Lib.hid (HN.out fun hs => by have h1 := (hs.2.2.1).1; omega)
          go_wp2
          go_ret
          exact ⟨ret_b HQ.out, HB.out⟩
        by_cases h1 : 8191 < d2
        · have HQ : Hid (B = false) := Lib.hid (HN.out fun hs => by have h1 := (hs.2.2.1).2; omega)
          go_wp2
          go_ret
          exact ⟨ret_b HQ.out, HB.out⟩
        · have HQ : Hid (Pt d2) := Lib.hid ⟨by omega, by omega⟩
          go_wp2
          go_round
          case rel => exact ⟨3, by omega, rfl, Lib.hid ⟨fun _ => hp.out.1 (by omega), fun _ => hp.out.2.1 (by omega), fun _ => HQ.out, by omega, by omega, by omega, by omega, by omega⟩⟩
          case measure => simp [intOf]
      · by_cases h0 : d3 < 0
        · have HQ : Hid (B = false) := Lib.hid (HN.out fun hs => by have h1 := (hs.2.2.2.1).1; omega)
          go_wp2
          go_ret
          exact ⟨ret_b HQ.out, HB.out⟩
        by_cases h1 : 8191 < d3
        · have HQ : Hid (B = false) := Lib.hid (HN.out fun hs => by have h1 := (hs.2.2.2.1).2; omega)
          go_wp2
          go_ret
          exact ⟨ret_b HQ.out, HB.out⟩
        · have HQ : Hid (Pt d3) := Lib.hid ⟨by omega, by omega⟩
          go_wp2
          go_round
          case rel => exact ⟨4, by omega, rfl, Lib.hid ⟨fun _ => hp.out.1 (by omega), fun _ => hp.out.2.1 (by omega), fun _ => hp.out.2.2.1 (by omega), fun _ => HQ.out, by omega, by omega, by omega, by omega⟩⟩
          case measure => simp [intOf]
      · by_cases h0 : d4 < 0
        · have HQ : Hid (B = false) := Lib.hid (HN.out fun hs => by have h1 := (hs.2.2.2.2.1).1; omega)
          go_wp2
          go_ret
          exact ⟨ret_b HQ.out, HB.out⟩
        by_cases h1 : 8191 < d4
        · have HQ : Hid (B = false) := Lib.hid (HN.out fun hs => by have h1 := (hs.2.2.2.2.1).2; omega)
          go_wp2
          go_ret
          exact ⟨ret_b HQ.out, HB.out⟩
        · have HQ : Hid (Pt d4) := Lib.hid ⟨by omega, by omega⟩
          go_wp2
          go_round
          case rel => exact ⟨5, by omega, rfl, Lib.hid ⟨fun _ => hp.out.1 (by omega), fun _ => hp.out.2.1 (by omega), fun _ => hp.out.2.2.1 (by omega), fun _ => hp.out.2.2.2.1 (by omega), fun _ => HQ.out, by omega, by omega, by omega⟩⟩
          case measure => simp [intOf]
      · by_cases h0 : d5 < 0
        · have HQ : Hid (B = false) := Lib.hid (HN.out fun hs => by have h1 := (hs.2.2.2.2.2.1).1; omega)
          go_wp2
          go_ret
          exact ⟨ret_b HQ.out, HB.out⟩
        by_cases h1 : 8191 < d5
        · have HQ : Hid (B = false) := Lib.hid (HN.out fun hs => by have h1 := (hs.2.2.2.2.2.1).2; omega)
          go_wp2
          go_ret
          exact ⟨ret_b HQ.out, HB.out⟩
        · have HQ : Hid (Pt d5) := Lib.hid ⟨by omega, by omega⟩
          go_wp2
          go_round
          case rel => exact ⟨6, by omega, rfl, Lib.hid ⟨fun _ => hp.out.1 (by omega), fun _ => hp.out.2.1 (by omega), fun _ => hp.out.2.2.1 (by omega), fun _ => hp.out.2.2.2.1 (by omega), fun _ => hp.out.2.2.2.2.1 (by omega), fun _ => HQ.out, by omega, by omega⟩⟩
          case measure => simp [intOf]
      · by_cases h0 : sg < 0
        · have HQ : Hid (B = false) := Lib.hid (HN.out fun hs => by have h1 := (hs.2.2.2.2.2.2.1).1; omega)
          go_wp2
          go_ret
          exact ⟨ret_b HQ.out, HB.out⟩
        by_cases h1 : 8191 < sg
        · have HQ : Hid (B = false) := Lib.hid (HN.out fun hs => by have h1 := (hs.2.2.2.2.2.2.1).2; omega)
          go_wp2
          go_ret
          exact ⟨ret_b HQ.out, HB.out⟩
        · have HQ : Hid (Pt sg) := Lib.hid ⟨by omega, by omega⟩
          go_wp2
          go_round
          case rel => exact ⟨7, by omega, rfl, Lib.hid ⟨fun _ => hp.out.1 (by omega), fun _ => hp.out.2.1 (by omega), fun _ => hp.out.2.2.1 (by omega), fun _ => hp.out.2.2.2.1 (by omega), fun _ => hp.out.2.2.2.2.1 (by omega), fun _ => hp.out.2.2.2.2.2.1 (by omega), fun _ => HQ.out, by omega⟩⟩
          case measure => simp [intOf]
      · by_cases h0 : db < 0
        · have HQ : Hid (B = false) := Lib.hid (HN.out fun hs => by have h1 := (hs.2.2.2.2.2.2.2).1; omega)
          go_wp2
          go_ret
          exact ⟨ret_b HQ.out, HB.out⟩
        by_cases h1 : 8191 < db
        · have HQ : Hid (B = false) := Lib.hid (HN.out fun hs => by have h1 := (hs.2.2.2.2.2.2.2).2; omega)
          go_wp2
          go_ret
          exact ⟨ret_b HQ.out, HB.out⟩
        · have HQ : Hid (Pt db) := Lib.hid ⟨by omega, by omega⟩
          go_wp2
          go_round
          case rel => exact ⟨8, by omega, rfl, Lib.hid ⟨fun _ => hp.out.1 (by omega), fun _ => hp.out.2.1 (by omega), fun _ => hp.out.2.2.1 (by omega), fun _ => hp.out.2.2.2.1 (by omega), fun _ => hp.out.2.2.2.2.1 (by omega), fun _ => hp.out.2.2.2.2.2.1 (by omega), fun _ => hp.out.2.2.2.2.2.2.1 (by omega), fun _ => HQ.out⟩⟩
          case measure => simp [intOf]
      · have HQ : Hid (B = true) := Lib.hid (HY.out ⟨hp.out.1 (by omega), hp.out.2.1 (by omega), hp.out.2.2.1 (by omega), hp.out.2.2.2.1 (by omega), hp.out.2.2.2.2.1 (by omega), hp.out.2.2.2.2.2.1 (by omega), hp.out.2.2.2.2.2.2.1 (by omega), hp.out.2.2.2.2.2.2.2 (by omega)⟩)
        clear hp hn
        go_wp2
        go_ret
        exact ⟨ret_b HQ.out, HB.out⟩

theorem irefright_any (i : Ind) (w : World) : Calls Try.prog 23 #[iv i] w fun e w' => e = .returned (.bool (decide (IR i))) ∧ Below w.heap.size w w' := by
  by_cases h0 : i.k = 0
  · exact refright_zero i w h0
  · obtain ⟨k, l, s, d0, d1, d2, d3, d4, d5, sg, db⟩ := i
    simp only at h0
    by_cases h : (((k = 1 ∨ k = 2) ∧ 0 ≤ l ∧ l ≤ 1000) ∧ 0 ≤ s ∧ s ≤ 2147483647)
    · have e : decide (IR ⟨k, l, s, d0, d1, d2, d3, d4, d5, sg, db⟩) = decide (Pt d0 ∧ Pt d1 ∧ Pt d2 ∧ Pt d3 ∧ Pt d4 ∧ Pt d5 ∧ Pt sg ∧ Pt db) := by
        rw [decide_eq_decide, IR_some (i := ⟨k, l, s, d0, d1, d2, d3, d4, d5, sg, db⟩) h.1.1]
        unfold Is
        simp only
        constructor
        · rintro ⟨_, _, ⟨a, b, c, d, e, f⟩, g, h⟩; exact ⟨a, b, c, d, e, f, g, h⟩
        · rintro ⟨a, b, c, d, e, f, g, q⟩; exact ⟨h.1.2, h.2, ⟨a, b, c, d, e, f⟩, g, q⟩
      rw [e]
      exact refright_loop _ _ _ _ _ _ _ _ _ _ _ w h.1.1 h.1.2.1 h.1.2.2 h.2.1 h.2.2
    · have e : decide (IR ⟨k, l, s, d0, d1, d2, d3, d4, d5, sg, db⟩) = false := decide_eq_false (by
        rintro (g | ⟨g, g1, g2, -⟩)
        · injection g with g; exact h0 g
        · exact h ⟨⟨g, g1⟩, g2⟩)
      rw [e]
      exact refright_early _ _ _ _ _ _ _ _ _ _ _ w h0 h

end Go.Proofs.Ytolahkfjlifnoaa
