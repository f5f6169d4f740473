/-
  Whether a setup and operations are more than the statements on managers look at: if not, they are few. Nothing of one statement alone stands here.
-/
import Derived.Test.YtjjggmopkfkpaaaGreatLC
import Derived.Test.YtjjggmopkfkpaaaGreatKW
import Derived.Test.YtjjggmopkfkpaaaGreatKG
import Derived.WalkKit
namespace Go.Proofs.YtjjggmopkfkpaaaGreat
open Go.RowKit Crcm Go.ChangeShapes

/-- what long comes to -/
def LoP (s : Su) (ol : List Bo) (e : Ending) : Prop := (e = .returned (.bool false) ∧ SuFew s ∧ ol.length ≤ 9000 ∧ ∀ y ∈ ol, y.b.length ≤ 9000) ∨ e = .returned (.bool true)

set_option maxRecDepth 100000 in
set_option maxHeartbeats 4000000 in
theorem slong_any (s : Su) (a : Sa) (ao : Option Addr) (m co : Nat) (ol : List Bo) (w : World) (hs : SuAt w s a) (ho : RoB w ao ol) (hm : ol.length = m) :
    Calls Tryz.prog 4 #[.agg (suC s a), .slice ao m co] w fun e w' => LoP s ol e ∧ Below w.heap.size w w' := by
  have HNo : Hid (∀ t w', Below w.heap.size w w' → t = true → LoP s ol (.returned (.bool t)) ∧ Below w.heap.size w w') := Lib.hid fun t w' hb e => ⟨.inr (by rw [e]), hb⟩
  obtain ⟨x, y, z, bad, fl, fr, lv, res, first⟩ := s
  obtain ⟨ab, cb, af, cf, ar, cr, al, cl⟩ := a
  unfold suC
  dsimp only
  have hB := (Below.refl w.heap.size w).alloc (Nat.le_refl _) (.cells #[.int .i64 x, .int .i64 y, .int .i64 z, .slice ab bad.length cb, .slice af fl.length cf, .slice ar fr.length cr, .slice al lv.length cl, .int .i64 res, .int .i64 first] 28)
  have HBk := Lib.hid (Blk.new w 28 #[.int .i64 x, .int .i64 y, .int .i64 z, .slice ab bad.length cb, .slice af fl.length cf, .slice ar fr.length cr, .slice al lv.length cl, .int .i64 res, .int .i64 first])
  have HSu := Lib.hid (hs.below hB)
  have HOl := Lib.hid (ho.below hB)
  have zb := hs.zb
  have zr := hs.zr
  have zl := hs.zl
  have mf := hs.mf
  have HZf := Lib.hid hs.zf
  have m9 : m ≤ 9223372036854775807 := by have := ho.1; unfold maxLen at this; omega
  have HZo := Lib.hid ho.2.1
  have HM := Lib.hid hm
  have HB := Lib.hid hB
  dsimp only at zb zr zl mf HZf
  clear hs ho hm hB
  have HAll : Hid (∀ t : Int, (bad.length : Int) ≤ t → (m : Int) ≤ t → (∀ j, j < m → (ol[j]!.b.length : Int) ≤ t) → t ≤ 9000 → bad.length ≤ 9000 ∧ ol.length ≤ 9000 ∧ ∀ y ∈ ol, y.b.length ≤ 9000) := Lib.hid fun t h1 h2 h3 h4 => by
    refine ⟨by omega, by rw [HM.out]; omega, fun y hy => ?_⟩
    obtain ⟨j, hj, rfl⟩ := List.getElem_of_mem hy
    have := h3 j (by rw [← HM.out]; exact hj)
    rw [getElem!_pos ol j hj] at this
    omega
  obtain ⟨lb, hlb⟩ : ∃ n, bad.length = n := ⟨_, rfl⟩
  obtain ⟨lr, hlr⟩ : ∃ n, fr.length = n := ⟨_, rfl⟩
  obtain ⟨ll, hll⟩ : ∃ n, lv.length = n := ⟨_, rfl⟩
  obtain ⟨lf, hlf⟩ : ∃ n, fl.length = n := ⟨_, rfl⟩
  have HLb := Lib.hid hlb
  have HLf := Lib.hid hlf
  rw [hlb] at zb HBk HB HAll ⊢
  rw [hlr] at zr HBk HB ⊢
  rw [hll] at zl HBk HB ⊢
  rw [hlf] at mf HBk HB ⊢
  have HFl : Hid (FlAt (w.alloc (.cells #[.int .i64 x, .int .i64 y, .int .i64 z, .slice ab lb cb, .slice af lf cf, .slice ar lr cr, .slice al ll cl, .int .i64 res, .int .i64 first] 28)) (fun _ => False) (.slice af lf cf) fl) := Lib.hid (by
    have := HSu.out.fl
    dsimp only at this
    rw [hlb, hlr, hll, hlf] at this
    exact this)
  have HOl2 : Hid (RoB (w.alloc (.cells #[.int .i64 x, .int .i64 y, .int .i64 z, .slice ab lb cb, .slice af lf cf, .slice ar lr cr, .slice al ll cl, .int .i64 res, .int .i64 first] 28)) ao ol) := Lib.hid (by
    have := HOl.out
    rw [hlb, hlr, hll, hlf] at this
    exact this)
  clear hlb hlr hll hlf HSu HOl
  go_enter Tryz.func4, Tryz.ntmps4
  go_upto_region 1 with (fail)
  generalize (w.alloc (.cells #[.int .i64 x, .int .i64 y, .int .i64 z, .slice ab lb cb, .slice af lf cf, .slice ar lr cr, .slice al ll cl, .int .i64 res, .int .i64 first] 28)) = w1 at HB HBk HFl HOl2 ⊢
  obtain ⟨g, hg⟩ : ∃ g, w.heap.size = g := ⟨_, rfl⟩
  rw [hg] at HBk ⊢
  have c3 : w1.cell? ⟨g, 3, none⟩ = some (.slice ab lb cb) := HBk.out.cell 3
  have c4 : w1.cell? ⟨g, 4, none⟩ = some (.slice af lf cf) := HBk.out.cell 4
  have c5 : w1.cell? ⟨g, 5, none⟩ = some (.slice ar lr cr) := HBk.out.cell 5
  have c6 : w1.cell? ⟨g, 6, none⟩ = some (.slice al ll cl) := HBk.out.cell 6
  clear hg
  go_wp2_with fail
  go_loop [5, 6] (fun t i => ∃ (k : Nat) (u : Int), k ≤ m ∧ i = .int .i64 k ∧ t = .int .i64 u ∧ Hid (0 ≤ u ∧ (lb : Int) ≤ u ∧ (k : Int) ≤ u ∧ ∀ j, j < k → (ol[j]!.b.length : Int) ≤ u)) (fun _ i => m - (intOf i).toNat)
  case atStart =>
    refine ⟨0, (lb : Int) + lr + ll, by omega, rfl, rfl, Lib.hid ⟨by omega, by omega, by omega, fun j hj => absurd hj (Nat.not_lt_zero _)⟩⟩
  case round =>
    obtain ⟨k, u, hk, rfl, rfl, HU⟩ := hrel
    by_cases h2 : u ≤ 9000
    case neg =>
      have t2 : decide (u ≤ 9000) = false := decide_eq_false h2
      have t3 : decide (9000 < u) = true := decide_eq_true (by omega)
      clear HAll HU HZo HOl2 HFl HZf
      by_cases h1 : k < m
      · have q1 : (k : Int) < (m : Int) := by omega
        clear h1 h2
        go_wp2_with fail
        go_loop [5, 7] (fun t i => i = .int .i64 0 ∧ t = .int .i64 u) (fun _ i => 0)
        case atStart => exact ⟨rfl, rfl⟩
        case round =>
          obtain ⟨rfl, rfl⟩ := hrel
          by_cases h4 : 0 < lf
          · have q4 : (0 : Int) < (lf : Int) := by omega
            go_wp2
            go_ret
            exact HNo.out _ _ HB.out rfl
          · have q4 : ¬ (0 : Int) < (lf : Int) := by omega
            go_wp2
            go_ret
            exact HNo.out _ _ HB.out rfl
      · have q1 : ¬ (k : Int) < (m : Int) := by omega
        clear h1 h2
        go_wp2_with fail
        go_loop [5, 7] (fun t i => i = .int .i64 0 ∧ t = .int .i64 u) (fun _ i => 0)
        case atStart => exact ⟨rfl, rfl⟩
        case round =>
          obtain ⟨rfl, rfl⟩ := hrel
          by_cases h4 : 0 < lf
          · have q4 : (0 : Int) < (lf : Int) := by omega
            go_wp2
            go_ret
            exact HNo.out _ _ HB.out rfl
          · have q4 : ¬ (0 : Int) < (lf : Int) := by omega
            go_wp2
            go_ret
            exact HNo.out _ _ HB.out rfl
    by_cases h1 : k < m
    · have q1 : (k : Int) < (m : Int) := by omega
      have hkl : k < ol.length := by rw [HM.out]; exact h1
      obtain ⟨b, off, rfl, hop⟩ := HOl2.out.at hkl
      obtain ⟨-, -, A, c, c2, -, -⟩ := hop
      have hzk := HZo.out _ (List.getElem_mem hkl)
      rw [← getElem!_pos ol k hkl] at hzk
      obtain ⟨n3, hn3⟩ : ∃ n, ol[k]!.b.length = n := ⟨_, rfl⟩
      rw [hn3] at c2 hzk
      have HN3 := Lib.hid hn3
      have u0 : 0 ≤ u := HU.out.1
      clear hkl hn3
      go_wp2
      go_round
      case rel =>
        refine ⟨k + 1, _, by omega, by go_num, rfl, Lib.hid ?_⟩
        obtain ⟨x0, x1, x2, x3⟩ := HU.out
        have h3 := HN3.out
        refine ⟨by omega, by omega, by omega, fun j hj => ?_⟩
        by_cases e : j = k
        · subst e; omega
        · have := x3 j (by omega); omega
      case measure => simp [intOf]; omega
    · have q1 : ¬ (k : Int) < (m : Int) := by omega
      have HZ : Hid (0 ≤ u ∧ ∀ t, u ≤ t → t ≤ 9000 → lb ≤ 9000 ∧ ol.length ≤ 9000 ∧ ∀ y ∈ ol, y.b.length ≤ 9000) := Lib.hid ⟨HU.out.1, fun t h3 h4 => by
        obtain ⟨x0, x1, x2, x3⟩ := HU.out
        have e : k = m := by omega
        subst e
        exact HAll.out t (by have := HLb.out; omega) (by omega) (fun j hj => by have := x3 j hj; omega) h4⟩
      clear HAll HU HZo HOl2
      have HGo : Hid (∀ (z1 z2 z3 : Int), z1 = x → z2 = y → z3 = z → (GdI x y z → ∀ W, Calls Tryz.prog 16 #[geoV x y z] W fun e w' => e = .returned (.bool true) ∧ Below W.heap.size W w') ∧ (¬ GdI x y z → ∀ W, Calls Tryz.prog 16 #[geoV x y z] W fun e w' => e = .returned (.bool false) ∧ Below W.heap.size W w')) := Lib.hid fun _ _ _ _ _ _ => ⟨fun h W => rright_yes h W, fun h W => rright_no h W⟩
      go_wp2_with fail
      go_loop [5, 7] (fun t i => ∃ (q : Nat) (v : Int), q ≤ lf ∧ i = .int .i64 q ∧ t = .int .i64 v ∧ Hid (u ≤ v ∧ (q : Int) ≤ v ∧ ∀ j (hj : j < fl.length), j < q → (fl[j].data.length : Int) ≤ v)) (fun _ i => lf - (intOf i).toNat)
      case atStart => exact ⟨0, u, by omega, rfl, rfl, Lib.hid ⟨by omega, by have := HZ.out.1; omega, fun j _ hj => absurd hj (Nat.not_lt_zero _)⟩⟩
      case round =>
        obtain ⟨q, v, hq, rfl, rfl, HV⟩ := hrel
        by_cases h6 : v ≤ 9000
        case neg =>
          have t6 : decide (v ≤ 9000) = false := decide_eq_false h6
          have t7 : decide (9000 < v) = true := decide_eq_true (by omega)
          by_cases h5 : q < lf
          · have q5 : (q : Int) < (lf : Int) := by omega
            clear h6
            go_wp2
            go_ret
            exact HNo.out _ _ HB.out rfl
          · have q5 : ¬ (q : Int) < (lf : Int) := by omega
            clear h6
            go_wp2
            go_ret
            exact HNo.out _ _ HB.out rfl
        by_cases h5 : q < lf
        · have q5 : (q : Int) < (lf : Int) := by omega
          have hql : q < fl.length := by rw [HLf.out]; exact h5
          obtain ⟨a5, c5', he5, -, hr5⟩ := HFl.out
          injection he5 with e1 e2 e3
          subst e1
          rcases hr5 with h0 | ⟨b, off, rfl, -, hcs⟩
          · rw [h0] at hql; simp at hql
          obtain ⟨-, -, da, dc, c2, -, -⟩ := hcs q hql
          have hzq := HZf.out _ (List.getElem_mem hql)
          obtain ⟨n7, hn7⟩ : ∃ n, fl[q].data.length = n := ⟨_, rfl⟩
          rw [hn7] at c2 hzq
          have HN7 : Hid (∀ hq' : q < fl.length, fl[q].data.length = n7) := Lib.hid fun _ => hn7
          have v0 : 0 ≤ v := by have := HV.out.1; have := HZ.out.1; omega
          clear e2 e3 hql hn7 hcs
          go_wp2
          go_round
          case rel =>
            refine ⟨q + 1, _, by omega, by go_num, rfl, Lib.hid ?_⟩
            obtain ⟨x0, x1, x2⟩ := HV.out
            refine ⟨by omega, by omega, fun j hj hjq => ?_⟩
            by_cases e : j = q
            · subst e; have := HN7.out hj; omega
            · have := x2 j hj (by omega); omega
          case measure => simp [intOf]; omega
        · have q5 : ¬ (q : Int) < (lf : Int) := by omega
          have t7 : decide (9000 < v) = false := decide_eq_false (by omega)
          have HYes : Hid (∀ w', Below w.heap.size w w' → LoP ⟨x, y, z, bad, fl, fr, lv, res, first⟩ ol (.returned (.bool false)) ∧ Below w.heap.size w w') := Lib.hid fun w' hb => by
            obtain ⟨x0, x1, x2⟩ := HV.out
            obtain ⟨y1, y2, y3⟩ := HZ.out.2 v x0 h6
            refine ⟨.inl ⟨rfl, ⟨by show fl.length ≤ 9000; rw [HLf.out]; omega, fun f hf => ?_, by show bad.length ≤ 9000; rw [HLb.out]; exact y1⟩, y2, y3⟩, hb⟩
            obtain ⟨j, hj, rfl⟩ := List.getElem_of_mem hf
            have hj2 : j < fl.length := hj
            have h8 : (fl[j].data.length : Int) ≤ v := x2 j hj2 (by have := HLf.out; omega)
            show fl[j].data.length ≤ 9000
            omega
          have c0 : w1.cell? ⟨g, 0, none⟩ = some (.int .i64 x) := HBk.out.cell 0
          have c1 : w1.cell? ⟨g, 1, none⟩ = some (.int .i64 y) := HBk.out.cell 1
          have c2 : w1.cell? ⟨g, 2, none⟩ = some (.int .i64 z) := HBk.out.cell 2
          by_cases hgd : GdI x y z
          · have HR := Lib.hid ((HGo.out x y z rfl rfl rfl).1 hgd w1)
            obtain ⟨nb, rfl⟩ : ∃ n : Nat, x = n := ⟨x.toNat, by unfold GdI at hgd; omega⟩
            obtain ⟨np, rfl⟩ : ∃ n : Nat, y = n := ⟨y.toNat, by unfold GdI at hgd; omega⟩
            obtain ⟨sz, rfl⟩ : ∃ n : Nat, z = n := ⟨z.toNat, by unfold GdI at hgd; omega⟩
            have b1 : nb < 129 := by unfold GdI at hgd; omega
            have b2 : np < 33 := by unfold GdI at hgd; omega
            have b3 : sz ≤ 512 := by unfold GdI at hgd; omega
            have m1 : wrap64 ((nb : Int) * np) = ((nb * np : Nat) : Int) := by
              have := Nat.mul_le_mul (Nat.le_of_lt b1) (Nat.le_of_lt b2)
              rw [← Int.natCast_mul]; unfold wrap64; omega
            have m2 : wrap64 (((nb * np : Nat) : Int) * sz) = ((nb * np * sz : Nat) : Int) := by
              have := Nat.mul_le_mul (Nat.mul_le_mul (Nat.le_of_lt b1) (Nat.le_of_lt b2)) b3
              rw [← Int.natCast_mul]; unfold wrap64; omega
            have b4 : ((nb * np * sz : Nat) : Int) ≤ 2179584 := by
              have := Nat.mul_le_mul (Nat.mul_le_mul (Nat.le_of_lt b1) (Nat.le_of_lt b2)) b3
              omega
            unfold geoV at HR
            clear hgd h6 HGo HV HZ HFl HZf
            go_wp2_with fail
            refine HR.out.mono ?_
            rintro e w2 ⟨rfl, hb⟩
            have d0 := (hb.cell (block_lt_of_cell c0)).trans c0
            have d1 := (hb.cell (block_lt_of_cell c1)).trans c1
            have d2 := (hb.cell (block_lt_of_cell c2)).trans c2
            have HB2 := Lib.hid (HB.out.trans (hb.mono HB.out.size))
            clear hb
            by_cases h9 : 10000 < nb * np * sz
            · have t9 : decide ((10000 : Int) < ((nb * np * sz : Nat) : Int)) = true := decide_eq_true (by omega)
              generalize nb * np * sz = n9 at m2 t9 b4
              generalize nb * np = n8 at m1 m2
              clear h9
              go_wp2
              go_ret
              exact HNo.out _ _ HB2.out rfl
            · have t9 : decide ((10000 : Int) < ((nb * np * sz : Nat) : Int)) = false := decide_eq_false (by omega)
              generalize nb * np * sz = n9 at m2 t9 b4
              generalize nb * np = n8 at m1 m2
              clear h9
              go_wp2
              go_ret
              exact HYes.out _ HB2.out
          · have HR := Lib.hid ((HGo.out x y z rfl rfl rfl).2 hgd w1)
            unfold geoV at HR
            clear hgd h6 HGo HV HZ HFl HZf
            go_wp2_with fail
            refine HR.out.mono ?_
            rintro e w2 ⟨rfl, hb⟩
            have HB2 := Lib.hid (HB.out.trans (hb.mono HB.out.size))
            clear hb
            go_wp2
            go_ret
            exact HYes.out _ HB2.out
end Go.Proofs.YtjjggmopkfkpaaaGreat
