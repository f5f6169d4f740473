/-
  How far the erase counts of a chip without bad blocks lie apart.
-/
import Derived.Test.YtnnpdlebgfjihaaBlkEra
import Derived.Test.YtnnpdlebgfjihaaBlkTell
namespace Go.Proofs.Ytnnpdlebgfjihaa
open Go.RowKit Crcm Gcm Go.ChangeShapes

/-- the least and the most of the first so many -/
def gpL (f : Nat → Int) : Nat → Int × Int
  | 0 => (0, 0)
  | k + 1 => if k = 0 then (f 0, f 0) else (if f k < (gpL f k).1 then f k else (gpL f k).1, if (gpL f k).2 < f k then f k else (gpL f k).2)
theorem gpL_in (f : Nat → Int) : ∀ n, 0 < n → (∃ j, j < n ∧ (gpL f n).1 = f j) ∧ (∃ j, j < n ∧ (gpL f n).2 = f j) := by
  intro n
  induction n with
  | zero => intro h; omega
  | succ k ih =>
    intro _
    rw [gpL]
    by_cases e : k = 0
    · subst e
      rw [if_pos rfl]
      exact ⟨⟨0, by omega, rfl⟩, ⟨0, by omega, rfl⟩⟩
    · rw [if_neg e]
      obtain ⟨⟨a, ha, ea⟩, ⟨b, hb, eb⟩⟩ := ih (by omega)
      constructor
      · dsimp only
        split
        · exact ⟨k, by omega, rfl⟩
        · exact ⟨a, by omega, ea⟩
      · dsimp only
        split
        · exact ⟨k, by omega, rfl⟩
        · exact ⟨b, by omega, eb⟩

theorem gfield0 (a b c : Int) (w : World) : Sem.run Try.prog (Instr.field 23 (.agg #[.int .i64 a, .int .i64 b, .int .i64 c]) 0) w = .ok (.int .i64 a) w := by
  unfold Instr.field
  go_simp
  rfl

set_option maxRecDepth 100000 in
set_option maxHeartbeats 2000000 in
theorem gap_any {w : World} {X : Nat → Prop} {o : Own} {c : Ch} (hc : ChAt w X o c) (hbd : ∀ k, k < c.nb → c.bad k = false) (hI : ∀ k, k < c.nb → 0 ≤ c.wear k ∧ c.wear k ≤ 1000) :
    Calls Try.prog 26 #[o.p] w fun e w' => e = .returned (.int .i64 ((gpL c.wear c.nb).2 - (gpL c.wear c.nb).1)) ∧ Below w.heap.size w w' := by
  have HGe := Lib.hid (fun W (hb : Below w.heap.size w W) => geo_any (hc.below hb))
  have HBd := Lib.hid (fun W (hb : Below w.heap.size w W) k (hk : k < c.nb) => bad_any (hc.below hb) k hk)
  have HW := Lib.hid (fun W (hb : Below w.heap.size w W) k (hk : k < c.nb) => wear_any (hc.below hb) k hk)
  have hn0 := hc.good.1
  have hnb := hc.good.2.1
  have HIn := Lib.hid (fun n hn => gpL_in c.wear n hn)
  have HB := Lib.hid hbd
  have HI := Lib.hid hI
  have gf := gfield0
  generalize hf : c.wear = f at HW HIn HI ⊢
  generalize hn : c.nb = n at *
  clear hc hbd hI
  unfold Own.p at HBd HGe
  go_enter Try.func26, Try.ntmps26
  go_wp2_with fail
  go_loopw [3, 4, 5, 6] (fun a b t i wr => ∃ k : Nat, k ≤ n ∧ i = .int .i64 k ∧ a = .int .i64 (gpL f k).1 ∧ b = .int .i64 (gpL f k).2 ∧ t = .bool (decide (0 < k)) ∧ Hid (Below w.heap.size w wr)) (fun _ _ _ i _ => n - (intOf i).toNat)
  case atStart => exact ⟨0, by omega, rfl, rfl, rfl, rfl, Lib.hid (Below.refl _ _)⟩
  case round =>
    obtain ⟨k, hk, rfl, rfl, rfl, rfl, E⟩ := hrel
    go_wp2_with fail
    refine (HGe.out _ E.out).mono ?_
    rintro e w1 ⟨rfl, hb1⟩
    have E1 := Lib.hid (E.out.trans (hb1.mono E.out.size))
    clear hb1
    by_cases hlt : k < n
    · have hlt' : (k : Int) < (n : Int) := by omega
      have hbd := (HBd.out w1 E1.out k hlt)
      rw [HB.out k hlt] at hbd
      have HBk := Lib.hid hbd
      clear hbd
      go_wp2_with fail
      refine HBk.out.mono ?_
      rintro e w' ⟨rfl, rfl⟩
      by_cases k0 : k = 0
      · subst k0
        have HQ := Lib.hid (HW.out w1 E1.out 0 hlt)
        have H1 : Hid ((gpL f 1).1 = f 0 ∧ (gpL f 1).2 = f 0) := Lib.hid ⟨rfl, rfl⟩
        generalize f 0 = x at HQ H1
        go_wp2_with fail
        refine HQ.out.mono ?_
        rintro e w' ⟨rfl, rfl⟩
        go_wp2_with fail
        refine HQ.out.mono ?_
        rintro e w' ⟨rfl, rfl⟩
        go_wp2
        go_roundw
        case rel => exact ⟨1, by omega, by go_num, by rw [H1.out.1], by rw [H1.out.2], rfl, E1⟩
        case measure => simp [intOf]; omega
      · have t0 : decide (0 < k) = true := decide_eq_true (by omega)
        rw [t0]
        have HQ := Lib.hid (HW.out w1 E1.out k hlt)
        have H1 : Hid ((gpL f (k + 1)).1 = (if f k < (gpL f k).1 then f k else (gpL f k).1) ∧ (gpL f (k + 1)).2 = (if (gpL f k).2 < f k then f k else (gpL f k).2)) := Lib.hid (by rw [gpL, if_neg k0]; exact ⟨rfl, rfl⟩)
        generalize f k = x at HQ H1
        generalize (gpL f k).1 = L at H1 ⊢
        generalize (gpL f k).2 = U at H1 ⊢
        by_cases g1 : x < L
        · have t1 : decide (x < L) = true := decide_eq_true g1
          rw [if_pos g1] at H1
          by_cases g2 : U < x
          · have t2 : decide (U < x) = true := decide_eq_true g2
            rw [if_pos g2] at H1
            clear g1 g2
            go_wp2_with fail
            refine HQ.out.mono ?_
            rintro e w' ⟨rfl, rfl⟩
            go_wp2_with fail
            refine HQ.out.mono ?_
            rintro e w' ⟨rfl, rfl⟩
            go_wp2_with fail
            refine HQ.out.mono ?_
            rintro e w' ⟨rfl, rfl⟩
            go_wp2_with fail
            refine HQ.out.mono ?_
            rintro e w' ⟨rfl, rfl⟩
            go_wp2
            go_roundw
            case rel => exact ⟨k + 1, by omega, by go_num, by rw [H1.out.1], by rw [H1.out.2], by simp, E1⟩
            case measure => simp [intOf]; omega
          · have t2 : decide (U < x) = false := decide_eq_false g2
            rw [if_neg g2] at H1
            clear g1 g2
            go_wp2_with fail
            refine HQ.out.mono ?_
            rintro e w' ⟨rfl, rfl⟩
            go_wp2_with fail
            refine HQ.out.mono ?_
            rintro e w' ⟨rfl, rfl⟩
            go_wp2_with fail
            refine HQ.out.mono ?_
            rintro e w' ⟨rfl, rfl⟩
            go_wp2
            go_roundw
            case rel => exact ⟨k + 1, by omega, by go_num, by rw [H1.out.1], by rw [H1.out.2], by simp, E1⟩
            case measure => simp [intOf]; omega
        · have t1 : decide (x < L) = false := decide_eq_false g1
          rw [if_neg g1] at H1
          by_cases g2 : U < x
          · have t2 : decide (U < x) = true := decide_eq_true g2
            rw [if_pos g2] at H1
            clear g1 g2
            go_wp2_with fail
            refine HQ.out.mono ?_
            rintro e w' ⟨rfl, rfl⟩
            go_wp2_with fail
            refine HQ.out.mono ?_
            rintro e w' ⟨rfl, rfl⟩
            go_wp2_with fail
            refine HQ.out.mono ?_
            rintro e w' ⟨rfl, rfl⟩
            go_wp2
            go_roundw
            case rel => exact ⟨k + 1, by omega, by go_num, by rw [H1.out.1], by rw [H1.out.2], by simp, E1⟩
            case measure => simp [intOf]; omega
          · have t2 : decide (U < x) = false := decide_eq_false g2
            rw [if_neg g2] at H1
            clear g1 g2
            go_wp2_with fail
            refine HQ.out.mono ?_
            rintro e w' ⟨rfl, rfl⟩
            go_wp2_with fail
            refine HQ.out.mono ?_
            rintro e w' ⟨rfl, rfl⟩
            go_wp2
            go_roundw
            case rel => exact ⟨k + 1, by omega, by go_num, by rw [H1.out.1], by rw [H1.out.2], by simp, E1⟩
            case measure => simp [intOf]; omega
    · have hkn : k = n := by omega
      subst hkn
      obtain ⟨⟨j1, hj1, ej1⟩, ⟨j2, hj2, ej2⟩⟩ := HIn.out k (by omega)
      have i1 := HI.out j1 hj1
      have i2 := HI.out j2 hj2
      rw [← ej1] at i1
      rw [← ej2] at i2
      clear ej1 ej2 hj1 hj2
      obtain ⟨L, hL⟩ : ∃ L, (gpL f k).1 = L := ⟨_, rfl⟩
      obtain ⟨U, hU⟩ : ∃ U, (gpL f k).2 = U := ⟨_, rfl⟩
      rw [hL] at i1
      rw [hU] at i2
      have HLU := Lib.hid (And.intro hL hU)
      clear hL hU
      have hw : wrap64 (U - L) = U - L := IntWalk.wrap64_in _ ⟨by omega, by omega⟩
      go_wp2
      go_ret
      exact ⟨by rw [HLU.out.1, HLU.out.2]; exact congrArg (fun z => Ending.returned (Value.int .i64 z)) hw, E1.out⟩
end Go.Proofs.Ytnnpdlebgfjihaa
