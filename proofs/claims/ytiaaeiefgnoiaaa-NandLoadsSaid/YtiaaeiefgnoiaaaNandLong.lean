/-
  Whether operations are more than the statements of layer 2 look at, and whether a geometry is.
-/
import Derived.Test.YtiaaeiefgnoiaaaNandOps
import Derived.Test.YtiaaeiefgnoiaaaNandNew
namespace Go.Proofs.Ytiaaeiefgnoiaaa
open Go.RowKit Crcm Go.ChangeShapes

/-- the lengths of a row of operations, where the walk reads them -/
theorem Ro.at {w : World} {a : Option Addr} {ol : List Oz} (h : Ro w a ol) {k : Nat} (hk : k < ol.length) : ∃ b off, a = some ⟨b, off, none⟩ ∧ OzAt w b (off + k * 5) ol[k]! := by
  rcases h.2.2 with h | ⟨b, off, rfl, hc⟩
  · rw [h] at hk; simp at hk
  · exact ⟨b, off, rfl, hc k hk⟩
theorem FsV.at {w : World} {a : Option Addr} {n c : Nat} {fl : List Fl} (h : FsV w (.slice a n c) fl) {k : Nat} (hk : k < fl.length) : ∃ b off, a = some ⟨b, off, none⟩ ∧ w.cell? ⟨b, off + k * 3, none⟩ = some (.int .i64 fl[k].at') ∧ w.cell? ⟨b, off + k * 3 + 1, none⟩ = some (.int .i64 fl[k].kind) ∧
    ∃ da dc, w.cell? ⟨b, off + k * 3 + 2, none⟩ = some (.slice da fl[k].data.length dc) ∧ Rw w da fl[k].data ∧ fl[k].data.length ≤ dc := by
  obtain ⟨a', c', he, -, -, hf, -⟩ := h
  obtain ⟨a2, c2, he2, -, hf⟩ := hf
  injection he2 with e1 e2 e3
  subst e1
  rcases hf with h | ⟨b, off, rfl, -, hc⟩
  · rw [h] at hk; simp at hk
  · obtain ⟨c0, c1, da, dc, c2, hr, hl⟩ := hc k hk
    exact ⟨b, off, rfl, c0, c1, da, dc, c2, hr.1, hl⟩

set_option maxRecDepth 100000 in
set_option maxHeartbeats 4000000 in
theorem long_any (a : Option Addr) (n c : Nat) (ol : List Oz) (w : World) (hr : Ro w a ol) (hl : ol.length = n) :
    Calls Try.prog 7 #[.slice a n c] w fun e w' => (e = .returned (.bool false) ∨ e = .returned (.bool true)) ∧ w = w' := by
  have hm : n ≤ maxLen := by have := hr.1; omega
  have HR := Lib.hid hr
  have HL := Lib.hid hl
  unfold maxLen at hm
  clear hr hl
  go_enter Try.func7, Try.ntmps7
  go_wp2_with fail
  go_loop [3, 4] (fun t i => ∃ (k : Nat) (z : Int), k ≤ n ∧ i = .int .i64 k ∧ t = .int .i64 z) (fun _ i => n - (intOf i).toNat)
  case atStart => exact ⟨0, 0, by omega, rfl, rfl⟩
  case round =>
    obtain ⟨k, z, hk, rfl, rfl⟩ := hrel
    by_cases h1 : k < n
    · have q1 : (k : Int) < (n : Int) := by omega
      by_cases h2 : z ≤ 9000
      · have hkl : k < ol.length := by rw [HL.out]; exact h1
        obtain ⟨b, off, rfl, -, -, -, ⟨v3, c3, A, cc, rfl, -, -, -⟩, ⟨v4, c4, hf4⟩⟩ := HR.out.at hkl
        obtain ⟨y, hy⟩ : ∃ y, ol[k]! = y := ⟨_, rfl⟩
        rw [hy] at c3 hf4
        have HF := Lib.hid hf4
        obtain ⟨a4, cc4, rfl, -, hm4, -⟩ := hf4
        obtain ⟨m3, h3⟩ : ∃ m, y.b.length = m := ⟨_, rfl⟩
        obtain ⟨m4, h4⟩ : ∃ m, y.fl.length = m := ⟨_, rfl⟩
        have hm5 : m4 ≤ maxLen := by obtain ⟨_, _, -, h, _, _⟩ := HF.out; omega
        unfold maxLen at hm5
        have H4 := Lib.hid h4
        rw [h3] at c3
        rw [h4] at c4 HF
        clear h3 h4 hm4 hy hkl
        go_wp2_with fail
        go_loop [3, 5] (fun t j => ∃ (q : Nat) (u : Int), q ≤ m4 ∧ j = .int .i64 q ∧ t = .int .i64 u) (fun _ j => m4 - (intOf j).toNat)
        case atStart => exact ⟨0, _, by omega, rfl, rfl⟩
        case round =>
          obtain ⟨q, u, hq, rfl, rfl⟩ := hrel
          by_cases h5 : q < m4
          · have q5 : (q : Int) < (m4 : Int) := by omega
            by_cases h6 : u ≤ 9000
            · have hql : q < y.fl.length := by rw [H4.out]; exact h5
              obtain ⟨b5, off5, rfl, -, -, da, dc, c7, -, -⟩ := HF.out.at hql
              obtain ⟨m7, h7⟩ : ∃ m, y.fl[q].data.length = m := ⟨_, rfl⟩
              rw [h7] at c7
              clear h7 hql
              go_wp2
              go_round
              case rel => exact ⟨q + 1, _, by omega, by go_num, rfl⟩
              case measure => simp [intOf]; omega
            · go_wp2
              go_round
              case rel => exact ⟨k + 1, _, by omega, by go_num, rfl⟩
              case measure => simp [intOf]; omega
          · have q5 : ¬ (q : Int) < (m4 : Int) := by omega
            go_wp2
            go_round
            case rel => exact ⟨k + 1, _, by omega, by go_num, rfl⟩
            case measure => simp [intOf]; omega
      · go_wp2
        go_ret
        exact ⟨.inr rfl, rfl⟩
    · have q1 : ¬ (k : Int) < (n : Int) := by omega
      by_cases h2 : z ≤ 9000
      · have q3 : decide (9000 < z) = false := by simp; omega
        go_wp2
        go_ret
        exact ⟨.inl (by rw [← q3]; rfl), rfl⟩
      · have q3 : decide (9000 < z) = true := by simp; omega
        go_wp2
        go_ret
        exact ⟨.inr (by rw [← q3]; rfl), rfl⟩

set_option maxRecDepth 100000 in
set_option maxHeartbeats 1000000 in
/-- a geometry that is none is not looked away from -/
theorem wide_no {x y z : Int} (h : ¬ GdI x y z) (w : World) : Calls Try.prog 6 #[geoV x y z] w fun e w' => e = .returned (.bool false) ∧ Below w.heap.size w w' := by
  have HN := Lib.hid (fun w => gright_no h w)
  unfold geoV at HN
  unfold geoV
  go_enter Try.func6, Try.ntmps6
  go_wp2_with fail
  refine (HN.out _).mono ?_
  rintro e w' ⟨rfl, hb⟩
  have HB := Lib.hid (((Below.refl w.heap.size w).alloc (Nat.le_refl _) (.cells #[.int .i64 x, .int .i64 y, .int .i64 z] 23)).trans (hb.mono (by simp)))
  clear hb
  go_wp2
  go_ret
  exact ⟨rfl, HB.out⟩
set_option maxRecDepth 100000 in
set_option maxHeartbeats 1000000 in
theorem wide_yes {x y z : Int} (h : GdI x y z) (w : World) : Calls Try.prog 6 #[geoV x y z] w fun e w' => (e = .returned (.bool false) ∨ e = .returned (.bool true)) ∧ Below w.heap.size w w' := by
  have HN := Lib.hid (fun w => gright_yes h w)
  unfold geoV at HN
  unfold geoV
  go_enter Try.func6, Try.ntmps6
  go_wp2_with fail
  refine (HN.out _).mono ?_
  rintro e w' ⟨rfl, hb⟩
  have HB := Lib.hid (((Below.refl w.heap.size w).alloc (Nat.le_refl _) (.cells #[.int .i64 x, .int .i64 y, .int .i64 z] 23)).trans (hb.mono (by simp)))
  have hk := (Blk.new w 23 #[.int .i64 x, .int .i64 y, .int .i64 z]).below hb (by simp)
  have c0 := hk.cell 0
  have c1 := hk.cell 1
  have c2 := hk.cell 2
  simp at c0 c1 c2
  clear hb hk
  go_wp2
  generalize decide (10000 < wrap64 (wrap64 (x * y) * z)) = bb
  go_ret
  cases bb
  · exact ⟨.inl rfl, HB.out⟩
  · exact ⟨.inr rfl, HB.out⟩

end Go.Proofs.Ytiaaeiefgnoiaaa
