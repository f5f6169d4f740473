/-
  The fixed calls that each statement on path ends with.
-/
import Derived.Test.YtkhfobliclfhcaaPathAny
namespace Go.Proofs.Ytkhfobliclfhcaa
open Go.RowKit Go.ChangeShapes

theorem pA : parts ⟨#[47, 97, 47, 47, 98, 47]⟩ = [⟨#[97]⟩, ⟨#[98]⟩] := map_inj (by rw [parts_pcs]; rfl)
theorem pC : parts ⟨#[47, 46, 47, 97]⟩ = [⟨#[46]⟩, ⟨#[97]⟩] := map_inj (by rw [parts_pcs]; rfl)
theorem pD : parts ⟨#[47]⟩ = [] := map_inj (by rw [parts_pcs]; rfl)
theorem nm97 : Nm ⟨#[97]⟩ := ⟨⟨by decide, by decide⟩, fun h => absurd (congrArg (·.data.toList) h) (by decide), fun h => absurd (congrArg (·.data.toList) h) (by decide), by decide, by decide⟩
theorem nm98 : Nm ⟨#[98]⟩ := ⟨⟨by decide, by decide⟩, fun h => absurd (congrArg (·.data.toList) h) (by decide), fun h => absurd (congrArg (·.data.toList) h) (by decide), by decide, by decide⟩
theorem nm46 : ¬ Nm ⟨#[46]⟩ := fun h => h.2.1 rfl
theorem eA : psE ⟨#[47, 97, 47, 47, 98, 47]⟩ = 0 := by
  rw [ps_good (fun h => h.elim (fun h => absurd h (by decide)) (fun h => h.elim (fun h => absurd h (by decide)) (fun h => absurd h (by decide)))), pA]
  exact chk_name (k := 1) (chk_name (k := 0) rfl nm97 (by decide)) nm98 (by decide)
theorem eB : psE ⟨#[97]⟩ = 30 := ps_bad (.inr (.inr rfl))
theorem eC : psE ⟨#[47, 46, 47, 97]⟩ = 31 := by
  rw [ps_good (fun h => h.elim (fun h => absurd h (by decide)) (fun h => h.elim (fun h => absurd h (by decide)) (fun h => absurd h (by decide)))), pC]
  have h1 : chk [⟨#[46]⟩, ⟨#[97]⟩] 1 = 31 := chk_not (k := 0) rfl nm46
  have := chk_stays (l := [⟨#[46]⟩, ⟨#[97]⟩]) (k := 1) (n := 2) (by rw [h1]; decide) (by omega)
  exact this.trans h1
theorem eD : psE ⟨#[47]⟩ = 0 := by
  rw [ps_good (fun h => h.elim (fun h => absurd h (by decide)) (fun h => h.elim (fun h => absurd h (by decide)) (fun h => absurd h (by decide)))), pD]
  rfl

theorem parseA (w : World) : Calls Try.prog 16 #[.string ⟨#[47, 97, 47, 47, 98, 47]⟩] w fun e w' => (∃ a c, e = .returned (.tuple #[.slice a 2 c, .int .i64 0]) ∧ Rs w' a [⟨#[97]⟩, ⟨#[98]⟩]) ∧ Below w.heap.size w w' := by
  refine (parse_any _ w).mono ?_
  rintro r w' ⟨h, hb⟩
  refine ⟨?_, hb⟩
  rcases h with ⟨_, a, k, c, rfl, hrs, hlen, _⟩ | ⟨h, _⟩
  · rw [pA] at hrs hlen
    subst hlen
    exact ⟨a, c, rfl, hrs⟩
  · exact absurd eA h
theorem parseB (w : World) : Calls Try.prog 16 #[.string ⟨#[97]⟩] w fun e w' => e = .returned (.tuple #[.slice none 0 0, .int .i64 30]) ∧ Below w.heap.size w w' := by
  refine (parse_any _ w).mono ?_
  rintro r w' ⟨h, hb⟩
  refine ⟨?_, hb⟩
  rcases h with ⟨h, _⟩ | ⟨_, rfl⟩
  · rw [eB] at h; cases h
  · rw [eB]
theorem parseC (w : World) : Calls Try.prog 16 #[.string ⟨#[47, 46, 47, 97]⟩] w fun e w' => e = .returned (.tuple #[.slice none 0 0, .int .i64 31]) ∧ Below w.heap.size w w' := by
  refine (parse_any _ w).mono ?_
  rintro r w' ⟨h, hb⟩
  refine ⟨?_, hb⟩
  rcases h with ⟨h, _⟩ | ⟨_, rfl⟩
  · rw [eC] at h; cases h
  · rw [eC]
theorem parseD (w : World) : Calls Try.prog 16 #[.string ⟨#[47]⟩] w fun e w' => (∃ a c, e = .returned (.tuple #[.slice a 0 c, .int .i64 0])) ∧ Below w.heap.size w w' := by
  refine (parse_any _ w).mono ?_
  rintro r w' ⟨h, hb⟩
  refine ⟨?_, hb⟩
  rcases h with ⟨_, a, k, c, rfl, hrs, hlen, _⟩ | ⟨h, _⟩
  · rw [pD] at hlen
    subst hlen
    exact ⟨a, c, rfl⟩
  · exact absurd eD h

set_option maxRecDepth 100000 in
set_option maxHeartbeats 400000 in
theorem splitD (w : World) : Calls Try.prog 9 #[.string ⟨#[47]⟩] w fun e w' => e = .returned (.tuple #[.slice none 0 0, .string ⟨#[]⟩, .int .i64 72]) ∧ Below w.heap.size w w' := by
  go_enter Try.func9, Try.ntmps9
  go_wp2_with fail
  refine (parseD _).mono ?_
  rintro r w' ⟨⟨a, c, rfl⟩, hb⟩
  have HB := Lib.hid hb
  clear hb
  go_wp2
  exact bodyPost_ret (v := .tuple #[.slice none 0 0, .string ⟨#[]⟩, .int .i64 72]) (by simp [results, Try.results9, go_sem]) rfl ⟨rfl, HB.out⟩

theorem rs_two {w : World} {x y : ByteArray} {t : TypeId} (hx : x.size ≤ maxLen) (hy : y.size ≤ maxLen) : Rs (w.alloc (.cells #[.string x, .string y] t)) (some ⟨w.heap.size, 0, none⟩) [x, y] := by
  refine ⟨fun z hz => ?_, by unfold maxLen; simp, .inr ⟨w.heap.size, 0, rfl, fun j hj => ?_⟩⟩
  · simp at hz; rcases hz with rfl | rfl <;> assumption
  · match j, hj with
    | 0, _ => exact new_cellS rfl
    | 1, _ => exact new_cellS rfl
    | j + 2, hj => simp at hj; omega

set_option maxRecDepth 100000 in
set_option maxHeartbeats 1000000 in
theorem knownP_any (w : World) : Calls Try.prog 8 #[] w fun e w' => e = .returned (.bool true) ∧ Below w.heap.size w w' := by
  go_enter Try.func8, Try.ntmps8
  go_wp2_with fail
  refine (parseA _).mono ?_
  rintro r w1 ⟨⟨a, c, rfl, hrs⟩, hb⟩
  have B1 := Lib.hid hb
  have R1 := Lib.hid hrs
  clear hb hrs
  go_wp2_with fail
  refine (parseB _).mono ?_
  rintro r w2 ⟨rfl, hb⟩
  have B2 := Lib.hid (B1.out.trans (hb.mono B1.out.size))
  have R2 := Lib.hid (R1.out.below hb)
  clear hb R1 B1
  go_wp2_with fail
  refine (parseC _).mono ?_
  rintro r w3 ⟨rfl, hb⟩
  have B3 := Lib.hid (B2.out.trans (hb.mono B2.out.size))
  have R3 := Lib.hid (R2.out.below hb)
  clear hb R2 B2
  go_wp2_with fail
  refine (splitD _).mono ?_
  rintro r w4 ⟨rfl, hb⟩
  have B4 := Lib.hid (B3.out.trans (hb.mono B3.out.size))
  have hbx : Below w4.heap.size w4 (w4.alloc (.cells #[.string ⟨#[97]⟩, .string ⟨#[98]⟩] 9)) := (Below.refl _ _).alloc (Nat.le_refl _) _
  have B5 := Lib.hid (B4.out.trans (hbx.mono B4.out.size))
  have HS := Lib.hid (sameS_any _ _ a (some ⟨w4.heap.size, 0, none⟩) c 2 2 2 _ ((R3.out.below hb).below hbx) (rs_two (w := w4) (t := 9) (x := ⟨#[97]⟩) (y := ⟨#[98]⟩) (by decide) (by decide)) rfl rfl)
  rw [decide_eq_true rfl] at HS
  clear hb R3 B3 B4 hbx
  go_wp2_with fail
  refine HS.out.mono ?_
  rintro r w5 ⟨rfl, hb⟩
  have B6 := Lib.hid (B5.out.trans (hb.mono B5.out.size))
  clear hb
  go_wp2
  go_ret
  exact ⟨rfl, B6.out⟩

end Go.Proofs.Ytkhfobliclfhcaa
