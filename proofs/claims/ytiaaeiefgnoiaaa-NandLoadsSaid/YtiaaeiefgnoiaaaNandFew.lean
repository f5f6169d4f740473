/-
  Whether operations are more than the statements of layer 2 look at: if not, each of them is small.
-/
import Derived.Test.YtiaaeiefgnoiaaaNandLong
namespace Go.Proofs.Ytiaaeiefgnoiaaa
open Go.RowKit Crcm Go.ChangeShapes

/-- an operation of few bytes -/
def Sm (z : Int) (y : Oz) : Prop := (y.b.length : Int) ≤ z ∧ (y.fl.length : Int) ≤ z ∧ ∀ f ∈ y.fl, (f.data.length : Int) ≤ z
/-- an operation of no more bytes than memory has -/
def SzO (y : Oz) : Prop := y.b.length ≤ 140737488355328 ∧ ∀ f ∈ y.fl, f.data.length ≤ 140737488355328
theorem Sm.mono {z z' : Int} {y : Oz} (h : Sm z y) (hz : z ≤ z') : Sm z' y := ⟨Int.le_trans h.1 hz, Int.le_trans h.2.1 hz, fun f hf => Int.le_trans (h.2.2 f hf) hz⟩

set_option maxRecDepth 100000 in
set_option maxHeartbeats 4000000 in
theorem long_few (a : Option Addr) (n c : Nat) (ol : List Oz) (w : World) (hr : Ro w a ol) (hl : ol.length = n) (hzo : ∀ y ∈ ol, SzO y) :
    Calls Try.prog 7 #[.slice a n c] w fun e w' => ((e = .returned (.bool false) ∧ ∀ y ∈ ol, Sm 9000 y) ∨ e = .returned (.bool true)) ∧ w = w' := by
  have hm : n ≤ maxLen := by have := hr.1; omega
  have HR := Lib.hid hr
  have HSZ := Lib.hid hzo
  have HL := Lib.hid hl
  unfold maxLen at hm
  clear hr hl hzo
  go_enter Try.func7, Try.ntmps7
  go_wp2_with fail
  go_loop [3, 4] (fun t i => ∃ (k : Nat) (z : Int), k ≤ n ∧ i = .int .i64 k ∧ t = .int .i64 z ∧ Hid (0 ≤ z ∧ (z ≤ 9000 → ∀ j, j < k → Sm z ol[j]!))) (fun _ i => n - (intOf i).toNat)
  case atStart => exact ⟨0, 0, by omega, rfl, rfl, Lib.hid ⟨by omega, fun _ j hj => absurd hj (Nat.not_lt_zero _)⟩⟩
  case round =>
    obtain ⟨k, z, hk, rfl, rfl, HZ⟩ := hrel
    by_cases h1 : k < n
    · have q1 : (k : Int) < (n : Int) := by omega
      by_cases h2 : z ≤ 9000
      · have hkl : k < ol.length := by rw [HL.out]; exact h1
        obtain ⟨b, off, rfl, -, -, -, ⟨v3, c3, A, cc, rfl, -, -, hrB⟩, ⟨v4, c4, hf4⟩⟩ := HR.out.at hkl
        obtain ⟨y, hy⟩ : ∃ y, ol[k]! = y := ⟨_, rfl⟩
        rw [hy] at c3 hf4 hrB
        have HF := Lib.hid hf4
        obtain ⟨a4, cc4, rfl, -, hm4, -⟩ := hf4
        obtain ⟨m3, h3⟩ : ∃ m, y.b.length = m := ⟨_, rfl⟩
        obtain ⟨m4, h4⟩ : ∃ m, y.fl.length = m := ⟨_, rfl⟩
        have hm5 : m4 ≤ maxLen := by obtain ⟨_, _, -, h, _, _⟩ := HF.out; omega
        unfold maxLen at hm5
        have H4 := Lib.hid h4
        have hsz := HSZ.out _ (List.getElem_mem hkl)
        rw [← getElem!_pos ol k hkl, hy] at hsz
        have hBl := hsz.1
        have HS2 := Lib.hid hsz.2
        clear hsz hrB
        rw [h3] at c3 hBl
        rw [h4] at c4 HF
        have HY := Lib.hid hy
        have H3 := Lib.hid h3
        have hm3 : m3 ≤ 140737488355328 := hBl
        have z0 : 0 ≤ z := HZ.out.1
        clear h3 h4 hm4 hy hkl hBl
        go_wp2_with fail
        go_loop [3, 5] (fun t j => ∃ (q : Nat) (u : Int), q ≤ m4 ∧ j = .int .i64 q ∧ t = .int .i64 u ∧ Hid (z + 1 + m3 + q ≤ u ∧ ∀ i (hi : i < y.fl.length), i < q → (y.fl[i].data.length : Int) ≤ u)) (fun _ j => m4 - (intOf j).toNat)
        case atStart =>
          refine ⟨0, _, by omega, rfl, rfl, Lib.hid ⟨?_, fun i _ hi => absurd hi (Nat.not_lt_zero _)⟩⟩
          omega
        case round =>
          obtain ⟨q, u, hq, rfl, rfl, HU⟩ := hrel
          by_cases h5 : q < m4
          · have q5 : (q : Int) < (m4 : Int) := by omega
            by_cases h6 : u ≤ 9000
            · have hql : q < y.fl.length := by rw [H4.out]; exact h5
              obtain ⟨b5, off5, rfl, -, -, da, dc, c7, hr7, -⟩ := HF.out.at hql
              have h7m := HS2.out _ (List.getElem_mem hql)
              obtain ⟨m7, h7⟩ : ∃ m, y.fl[q].data.length = m := ⟨_, rfl⟩
              rw [h7] at c7 h7m
              have u0 : 0 ≤ u := by have := HU.out.1; omega
              have H7 : Hid (∀ hq' : q < y.fl.length, y.fl[q].data.length = m7) := Lib.hid fun _ => h7
              clear h7 hr7 hql
              go_wp2
              go_round
              case rel =>
                refine ⟨q + 1, _, by omega, by go_num, rfl, Lib.hid ?_⟩
                refine ⟨by have := HU.out.1; omega, fun i hi hiq => ?_⟩
                by_cases e : i = q
                · subst e; have := H7.out hi; omega
                · have := HU.out.2 i hi (by omega); omega
              case measure => simp [intOf]; omega
            · have HZ2 : Hid (0 ≤ u ∧ (u ≤ 9000 → ∀ j, j < k + 1 → Sm u ol[j]!)) := Lib.hid ⟨by have := HU.out.1; omega, fun h => absurd h h6⟩
              go_wp2
              go_round
              case rel => exact ⟨k + 1, _, by omega, by go_num, rfl, HZ2⟩
              case measure => simp [intOf]; omega
          · have q5 : ¬ (q : Int) < (m4 : Int) := by omega
            have HZ2 : Hid (0 ≤ u ∧ (u ≤ 9000 → ∀ j, j < k + 1 → Sm u ol[j]!)) := Lib.hid ⟨by have := HU.out.1; omega, fun _ j hj => by
              have h1 := HU.out.1
              by_cases e : j = k
              · subst e
                rw [HY.out]
                refine ⟨by have := H3.out; omega, by have := H4.out; omega, fun f hf => ?_⟩
                obtain ⟨i, hi, rfl⟩ := List.getElem_of_mem hf
                exact HU.out.2 i hi (by have := H4.out; omega)
              · exact (HZ.out.2 h2 j (by omega)).mono (by omega)⟩
            go_wp2
            go_round
            case rel => exact ⟨k + 1, _, by omega, by go_num, rfl, HZ2⟩
            case measure => simp [intOf]; omega
      · go_wp2
        go_ret
        exact ⟨.inr rfl, rfl⟩
    · have q1 : ¬ (k : Int) < (n : Int) := by omega
      by_cases h2 : z ≤ 9000
      · have q3 : decide (9000 < z) = false := by simp; omega
        go_wp2
        go_ret
        refine ⟨.inl ⟨by rw [← q3]; rfl, fun y hy => ?_⟩, rfl⟩
        obtain ⟨j, hj, rfl⟩ := List.getElem_of_mem hy
        have hh := HZ.out.2 h2 j (by have := HL.out; omega)
        rw [getElem!_pos ol j hj] at hh
        exact hh.mono h2
      · have q3 : decide (9000 < z) = true := by simp; omega
        go_wp2
        go_ret
        exact ⟨.inr (by rw [← q3]; rfl), rfl⟩

end Go.Proofs.Ytiaaeiefgnoiaaa
