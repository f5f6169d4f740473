/-
  The document's chip in memory: a chip made anew.
-/
import Derived.Test.YtjjggmopkfkpaaaGreatKV
import Derived.Test.YtjjggmopkfkpaaaGreatKF
import Derived.BigQuiet
import Derived.Deep.QuietTactic
namespace Go.Proofs.YtjjggmopkfkpaaaGreat
open Go.RowKit Crcm Go.ChangeShapes

theorem Tryz.infoIn : (Tryz.prog.info? 3).map (fun i => (i.zero, i.size, i.bytes)) = some (some (.int .i64 0), 1, 8) := by kernel_rfl
theorem Tryz.infoBo : (Tryz.prog.info? 4).map (fun i => (i.zero, i.size, i.bytes)) = some (some (.bool false), 1, 1) := by kernel_rfl

theorem wpAnyH_cast {P : Program} {md : Region.Mode} {ops ops' : Array Oper} {Q : Exit → Act → World → Prop} {S : World → Prop} {n : Nat} {l l' : Array Bool} {a a' : Act} {w : World}
    (h : wpAnyH P md ops' Q S n l' a' w) (ho : ops' = ops) (hl : l' = l) (ha : a' = a) : wpAnyH P md ops Q S n l a w := by
  subst ho hl ha
  exact h
/-- a chip of rows that were made -/
theorem blank_rc {W : World} {X : Nat → Prop} (hX : ∀ b, X b → b < W.heap.size) {nb np sz N : Nat} {csP csI csB : Array Value} (hg : Gd nb np sz) (hN : nb * np = N) (hP : csP.size = N ∧ ∀ i, i < N → csP[i]? = some (.slice none 0 0)) (hI : csI.size = nb ∧ ∀ i, i < nb → csI[i]? = some (.int .i64 0)) (hB : csB.size = nb ∧ ∀ i, i < nb → csB[i]? = some (.bool false))
    {x0 x1 x2 x3 x4 x5 : Nat} (b0 : Blk W x0 40 csP) (b1 : Blk W x1 3 csI) (b2 : Blk W x2 4 csB) (b3 : Blk W x3 4 csB) (b4 : Blk W x4 3 csI)
    (b5 : Blk W x5 80 #[.int .i64 nb, .int .i64 np, .int .i64 sz, .slice (some ⟨x0, 0, none⟩) N N, .slice (some ⟨x1, 0, none⟩) nb nb, .slice (some ⟨x2, 0, none⟩) nb nb, .slice (some ⟨x3, 0, none⟩) nb nb, .slice (some ⟨x4, 0, none⟩) nb nb, .slice none 0 0, .int .i64 0, .bool false, .int .i64 0, .int .i64 0])
    (n01 : x0 ≠ x1) (n02 : x0 ≠ x2) (n03 : x0 ≠ x3) (n04 : x0 ≠ x4) (n12 : x1 ≠ x2) (n13 : x1 ≠ x3) (n14 : x1 ≠ x4) (n23 : x2 ≠ x3) (n24 : x2 ≠ x4) (n34 : x3 ≠ x4) (m0 : x0 < x5) (m1 : x1 < x5) (m2 : x2 < x5) (m3 : x3 < x5) (m4 : x4 < x5) :
    RcAt W (fun b => X b ∨ Rb.F ⟨x5, x0, x1, x2, x3, x4⟩ b) ⟨x5, x0, x1, x2, x3, x4⟩ nb np sz false := by
  subst hN
  refine ⟨hg, fun b hb => ?_, fun b hb => .inr hb, ⟨Nat.ne_of_gt m0, Nat.ne_of_gt m1, Nat.ne_of_gt m2, Nat.ne_of_gt m3, Nat.ne_of_gt m4, n01, n02, n03, n04, n12, n13, n14, n23, n24, n34⟩, ⟨_, [], _, _, _, b5, FlAt.nil⟩, ⟨csP, b0, hP.1, fun i hi => ⟨_, hP.2 i hi, ⟨Option.none, [], 0, rfl, Nat.le_refl _, RwX.nil⟩⟩⟩, ⟨csI, b1, hI.1, fun i hi => ⟨_, hI.2 i hi⟩⟩, ⟨csB, b2, hB.1, fun i hi => ⟨_, hB.2 i hi⟩⟩, ⟨csB, b3, hB.1, fun i hi => ⟨_, hB.2 i hi⟩⟩, ⟨csI, b4, hI.1, fun i hi => ⟨_, hI.2 i hi⟩⟩⟩
  · rcases hb with hb | hb
    · exact hX b hb
    rcases hb with e | e | e | e | e | e
    · rw [e]; exact b5.lt
    · rw [e]; exact b0.lt
    · rw [e]; exact b1.lt
    · rw [e]; exact b2.lt
    · rw [e]; exact b3.lt
    · rw [e]; exact b4.lt

set_option maxRecDepth 100000 in
set_option maxHeartbeats 4000000 in
theorem rblank_any (nb np sz : Nat) (w : World) (hg : Gd nb np sz) (X : Nat → Prop) (hX : ∀ b, X b → b < w.heap.size) :
    Calls Tryz.prog 55 #[geoV nb np sz] w fun e w' => (∃ o : Rb, e = .returned (.pointer (some ⟨o.g, 0, none⟩)) ∧ RcAt w' (fun b => X b ∨ o.F b) o nb np sz false ∧ ∀ b, o.F b → w.heap.size < b) ∧ Below w.heap.size w w' := by
  have HX := Lib.hid hX
  clear hX
  obtain ⟨i1, hi1, hz1, hs1, hb1⟩ := info_parts Tryz.infoIn
  obtain ⟨i2, hi2, hz2, hs2, hb2⟩ := info_parts Tryz.infoPg
  obtain ⟨i3, hi3, hz3, hs3, hb3⟩ := info_parts Tryz.infoBo
  have g1 : nb < 129 := hg.2.1
  have g2 : np < 33 := hg.2.2.2.1
  have hN4 : nb * np ≤ 128 * 33 := Nat.mul_le_mul (by omega) (by omega)
  obtain ⟨N, hN⟩ : ∃ N, nb * np = N := ⟨_, rfl⟩
  have hNi : IntKind.i64.wrap ((nb : Int) * (np : Int)) = (N : Int) := by
    have e : (nb : Int) * (np : Int) = (N : Int) := by rw [← hN]; push_cast; rfl
    rw [e]
    exact IntWalk.i64_in _ ⟨by omega, by omega⟩
  rw [hN] at hN4
  have hmI := fun W => run_make (P := Tryz.prog) W 24 3 i1 _ Tryz.underlying24 hi1 hz1 .i64 .i64 nb nb (by omega) (Int.le_refl _) (by rw [hb1]; omega) (by omega)
  have hmB := fun W => run_make (P := Tryz.prog) W 26 4 i3 _ Tryz.underlying26 hi3 hz3 .i64 .i64 nb nb (by omega) (Int.le_refl _) (by rw [hb3]; omega) (by omega)
  have hmP := fun W => run_make (P := Tryz.prog) W 78 40 i2 _ Tryz.underlying78 hi2 hz2 .i64 .i64 N N (by omega) (Int.le_refl _) (by rw [hb2]; omega) (by omega)
  simp only [Int.toNat_natCast, hs1, Nat.mul_one] at hmI
  simp only [Int.toNat_natCast, hs2, Nat.mul_one] at hmP
  simp only [Int.toNat_natCast, hs3, Nat.mul_one] at hmB
  have HI : Hid ((madeCells (Value.int .i64 0).cells nb).size = nb ∧ ∀ i, i < nb → (madeCells (Value.int .i64 0).cells nb)[i]? = some (.int .i64 0)) := Lib.hid ⟨size_madeCells _ _, fun i hi => made_get hi⟩
  have HB : Hid ((madeCells (Value.bool false).cells nb).size = nb ∧ ∀ i, i < nb → (madeCells (Value.bool false).cells nb)[i]? = some (.bool false)) := Lib.hid ⟨size_madeCells _ _, fun i hi => made_get hi⟩
  have HP : Hid ((madeCells (Value.slice none 0 0).cells N).size = N ∧ ∀ i, i < N → (madeCells (Value.slice none 0 0).cells N)[i]? = some (.slice none 0 0)) := Lib.hid ⟨size_madeCells _ _, fun i hi => made_get hi⟩
  generalize madeCells (Value.int .i64 0).cells nb = csI at hmI HI
  generalize madeCells (Value.bool false).cells nb = csB at hmB HB
  generalize madeCells (Value.slice none 0 0).cells N = csP at hmP HP
  have HN := Lib.hid hN
  have HG := Lib.hid hg
  have HMI := Lib.hid hmI
  have HMB := Lib.hid hmB
  have HMP := Lib.hid hmP
  clear hmI hmB hmP hi1 hz1 hs1 hb1 hi2 hz2 hs2 hb2 hi3 hz3 hs3 hb3 hg hN
  have BG := Blk.new w 23 #[.int .i64 nb, .int .i64 np, .int .i64 sz]
  have HS := Lib.hid (show GS w.heap.size nb np sz (w.alloc (.cells #[.int .i64 nb, .int .i64 np, .int .i64 sz] 23)).drew from ⟨BG.cell 0, BG.cell 1, BG.cell 2⟩)
  have HBe := Lib.hid ((Below.refl w.heap.size w).alloc (Nat.le_refl _) (.cells #[.int .i64 nb, .int .i64 np, .int .i64 sz] 23)).drew
  clear BG
  unfold geoV
  go_enter Tryz.func55, Tryz.ntmps55
  go_wp2_with fail
  generalize (w.alloc (.cells #[.int .i64 nb, .int .i64 np, .int .i64 sz] 23)) = W at HS HBe ⊢
  obtain ⟨g0, hg0⟩ : ∃ g0, w.heap.size = g0 := ⟨_, rfl⟩
  have HG0 := Lib.hid hg0
  rw [hg0] at HS ⊢
  clear hg0
  refine wp_region_held_drew (S := GS g0 nb np sz) (by kernel_rfl) HS.out (fun hHeld => ?_)
  refine wpAnyH_take (i := 0) (v := .agg #[.int .i64 nb, .int .i64 np, .int .i64 sz]) rfl (by kernel_rfl) (by kernel_rfl) (by kernel_rfl) (fun _ _ _ h => h) (Or.inl ⟨by kernel_rfl, ?_⟩) hHeld ?_
  · intro w' hSw
    obtain ⟨q0, q1, q2⟩ := hSw
    go_simp
  refine wpAnyH_take (i := 1) (v := .pointer (some ⟨g0, 0, none⟩)) rfl (by kernel_rfl) (by kernel_rfl) (by kernel_rfl) (fun _ _ _ h => h) (Or.inl ⟨by kernel_rfl, ?_⟩) hHeld ?_
  · intro w' hSw
    obtain ⟨q0, q1, q2⟩ := hSw
    go_simp
  refine wpAnyH_take (i := 2) (v := .int .i64 nb) rfl (by kernel_rfl) (by kernel_rfl) (by kernel_rfl) (fun _ _ _ h => h) (Or.inl ⟨by kernel_rfl, ?_⟩) hHeld ?_
  · intro w' hSw
    obtain ⟨q0, q1, q2⟩ := hSw
    go_simp
  refine wpAnyH_take (i := 3) (v := .pointer (some ⟨g0, 1, none⟩)) rfl (by kernel_rfl) (by kernel_rfl) (by kernel_rfl) (fun _ _ _ h => h) (Or.inl ⟨by kernel_rfl, ?_⟩) hHeld ?_
  · intro w' hSw
    obtain ⟨q0, q1, q2⟩ := hSw
    go_simp
  refine wpAnyH_take (i := 4) (v := .int .i64 np) rfl (by kernel_rfl) (by kernel_rfl) (by kernel_rfl) (fun _ _ _ h => h) (Or.inl ⟨by kernel_rfl, ?_⟩) hHeld ?_
  · intro w' hSw
    obtain ⟨q0, q1, q2⟩ := hSw
    go_simp
  refine wpAnyH_take (i := 5) (v := .int .i64 N) rfl (by kernel_rfl) (by kernel_rfl) (by kernel_rfl) (fun _ _ _ h => h) (Or.inl ⟨by kernel_rfl, ?_⟩) hHeld ?_
  · intro w' hSw
    obtain ⟨q0, q1, q2⟩ := hSw
    go_simp
  refine wpAnyH_take (i := 7) (v := .pointer (some ⟨g0, 0, none⟩)) rfl (by kernel_rfl) (by kernel_rfl) (by kernel_rfl) (fun _ _ _ h => h) (Or.inl ⟨by kernel_rfl, ?_⟩) hHeld ?_
  · intro w' hSw
    obtain ⟨q0, q1, q2⟩ := hSw
    go_simp
  refine wpAnyH_take (i := 8) (v := .int .i64 nb) rfl (by kernel_rfl) (by kernel_rfl) (by kernel_rfl) (fun _ _ _ h => h) (Or.inl ⟨by kernel_rfl, ?_⟩) hHeld ?_
  · intro w' hSw
    obtain ⟨q0, q1, q2⟩ := hSw
    go_simp
  refine wpAnyH_take (i := 10) (v := .pointer (some ⟨g0, 0, none⟩)) rfl (by kernel_rfl) (by kernel_rfl) (by kernel_rfl) (fun _ _ _ h => h) (Or.inl ⟨by kernel_rfl, ?_⟩) hHeld ?_
  · intro w' hSw
    obtain ⟨q0, q1, q2⟩ := hSw
    go_simp
  refine wpAnyH_take (i := 11) (v := .int .i64 nb) rfl (by kernel_rfl) (by kernel_rfl) (by kernel_rfl) (fun _ _ _ h => h) (Or.inl ⟨by kernel_rfl, ?_⟩) hHeld ?_
  · intro w' hSw
    obtain ⟨q0, q1, q2⟩ := hSw
    go_simp
  refine wpAnyH_take (i := 13) (v := .pointer (some ⟨g0, 0, none⟩)) rfl (by kernel_rfl) (by kernel_rfl) (by kernel_rfl) (fun _ _ _ h => h) (Or.inl ⟨by kernel_rfl, ?_⟩) hHeld ?_
  · intro w' hSw
    obtain ⟨q0, q1, q2⟩ := hSw
    go_simp
  refine wpAnyH_take (i := 14) (v := .int .i64 nb) rfl (by kernel_rfl) (by kernel_rfl) (by kernel_rfl) (fun _ _ _ h => h) (Or.inl ⟨by kernel_rfl, ?_⟩) hHeld ?_
  · intro w' hSw
    obtain ⟨q0, q1, q2⟩ := hSw
    go_simp
  refine wpAnyH_take (i := 16) (v := .pointer (some ⟨g0, 0, none⟩)) rfl (by kernel_rfl) (by kernel_rfl) (by kernel_rfl) (fun _ _ _ h => h) (Or.inl ⟨by kernel_rfl, ?_⟩) hHeld ?_
  · intro w' hSw
    obtain ⟨q0, q1, q2⟩ := hSw
    go_simp
  refine wpAnyH_take (i := 17) (v := .int .i64 nb) rfl (by kernel_rfl) (by kernel_rfl) (by kernel_rfl) (fun _ _ _ h => h) (Or.inl ⟨by kernel_rfl, ?_⟩) hHeld ?_
  · intro w' hSw
    obtain ⟨q0, q1, q2⟩ := hSw
    go_simp
  refine wpAnyH_cast (bl00000 (N := N) HMI.out HMB.out HMP.out ?hQ (fun _ _ _ _ h => h) _ hHeld HBe.out) (by kernel_rfl) (by kernel_rfl) (by kernel_rfl)
  case hQ =>
    intro W x0 x1 x2 x3 x4 x5 hb b0 b1 b2 b3 b4 b5 l0 l1 l2 l3 l4 n01 n02 n03 n04 n12 n13 n14 n23 n24 n34 m0 m1 m2 m3 m4
    have HR := Lib.hid (blank_rc (X := X) (fun b h => Nat.lt_of_lt_of_le (HX.out b h) hb.size) HG.out HN.out HP.out HI.out HB.out b0 b1 b2 b3 b4 b5 n01 n02 n03 n04 n12 n13 n14 n23 n24 n34 m0 m1 m2 m3 m4)
    have HL : Hid (∀ b, Rb.F ⟨x5, x0, x1, x2, x3, x4⟩ b → w.heap.size < b) := Lib.hid (by
      rw [HG0.out]
      intro b hb
      rcases hb with e | e | e | e | e | e <;> (dsimp only at e; omega))
    have HBb := Lib.hid hb
    clear hb b0 b1 b2 b3 b4 b5 l0 l1 l2 l3 l4 n01 n02 n03 n04 n12 n13 n14 n23 n24 n34 m0 m1 m2 m3 m4
    go_wp2
    go_ret
    exact ⟨⟨_, rfl, HR.out, HL.out⟩, HBb.out⟩

end Go.Proofs.YtjjggmopkfkpaaaGreat

/-
  The document's chip in memory: Right and New; the program's New of a geometry that is none.
-/
namespace Go.Proofs.YtjjggmopkfkpaaaGreat
open Go.RowKit Crcm Go.ChangeShapes

set_option maxRecDepth 100000 in
set_option maxHeartbeats 1000000 in
theorem rright_yes {a b s : Int} (h : GdI a b s) (w : World) : Calls Tryz.prog 16 #[geoV a b s] w fun e w' => e = .returned (.bool true) ∧ Below w.heap.size w w' := by
  unfold geoV
  obtain ⟨h1, h2, h3, h4, h5⟩ := h
  have t1 : decide ((7 : Int) < a) = true := decide_eq_true (by omega)
  have t2 : decide (a < (129 : Int)) = true := decide_eq_true (by omega)
  have t3 : decide ((3 : Int) < b) = true := decide_eq_true (by omega)
  have t4 : decide (b < (33 : Int)) = true := decide_eq_true (by omega)
  clear h1 h2 h3 h4
  rcases h5 with rfl | rfl | rfl | rfl
  all_goals
    go_enter Tryz.func16, Tryz.ntmps16
    go_wp2
    go_ret
    exact ⟨rfl, (Below.refl _ _).alloc (Nat.le_refl _) _⟩
set_option maxRecDepth 100000 in
set_option maxHeartbeats 1000000 in
theorem rright_no {a b s : Int} (h : ¬ GdI a b s) (w : World) : Calls Tryz.prog 16 #[geoV a b s] w fun e w' => e = .returned (.bool false) ∧ Below w.heap.size w w' := by
  unfold geoV
  by_cases h5 : s = 64 ∨ s = 128 ∨ s = 256 ∨ s = 512
  · by_cases h1 : 8 ≤ a
    · have t1 : decide ((7 : Int) < a) = true := decide_eq_true (by omega)
      by_cases h2 : a ≤ 128
      · have t2 : decide (a < (129 : Int)) = true := decide_eq_true (by omega)
        by_cases h3 : 4 ≤ b
        · have t3 : decide ((3 : Int) < b) = true := decide_eq_true (by omega)
          have t4 : decide (b < (33 : Int)) = false := decide_eq_false fun h4 => h ⟨h1, h2, h3, by omega, h5⟩
          clear h1 h2 h3 h
          rcases h5 with rfl | rfl | rfl | rfl
          all_goals
            go_enter Tryz.func16, Tryz.ntmps16
            go_wp2
            go_ret
            exact ⟨rfl, (Below.refl _ _).alloc (Nat.le_refl _) _⟩
        · have t3 : decide ((3 : Int) < b) = false := decide_eq_false (by omega)
          clear h1 h2 h3 h
          rcases h5 with rfl | rfl | rfl | rfl
          all_goals
            go_enter Tryz.func16, Tryz.ntmps16
            go_wp2
            go_ret
            exact ⟨rfl, (Below.refl _ _).alloc (Nat.le_refl _) _⟩
      · have t2 : decide (a < (129 : Int)) = false := decide_eq_false (by omega)
        clear h1 h2 h
        rcases h5 with rfl | rfl | rfl | rfl
        all_goals
          go_enter Tryz.func16, Tryz.ntmps16
          go_wp2
          go_ret
          exact ⟨rfl, (Below.refl _ _).alloc (Nat.le_refl _) _⟩
    · have t1 : decide ((7 : Int) < a) = false := decide_eq_false (by omega)
      clear h1 h
      rcases h5 with rfl | rfl | rfl | rfl
      all_goals
        go_enter Tryz.func16, Tryz.ntmps16
        go_wp2
        go_ret
        exact ⟨rfl, (Below.refl _ _).alloc (Nat.le_refl _) _⟩
  · have t1 : (s == 64) = false := beq_eq_false_iff_ne.2 (by omega)
    have t2 : (s == 128) = false := beq_eq_false_iff_ne.2 (by omega)
    have t3 : (s == 256) = false := beq_eq_false_iff_ne.2 (by omega)
    have t4 : (s == 512) = false := beq_eq_false_iff_ne.2 (by omega)
    clear h5 h
    go_enter Tryz.func16, Tryz.ntmps16
    go_wp2
    all_goals
      go_ret
      exact ⟨rfl, (Below.refl _ _).alloc (Nat.le_refl _) _⟩
theorem below_drewN {w0 w : World} {B : Nat} (h : Below B w0 w) (q : Nat) : Below B w0 (w.drewN q) := ⟨h.os, h.tape, h.output, h.size, h.block⟩
set_option maxRecDepth 100000 in
set_option maxHeartbeats 1000000 in
theorem gnew_no {x y z : Int} (h : ¬ GdI x y z) (v : Value) (w : World) :
    Calls Tryz.prog 17 #[geoV x y z, v] w fun e w' => e = .returned (.tuple #[.pointer none, .int .i64 1]) ∧ Below w.heap.size w w' := by
  have HR := Lib.hid (fun W => gright_no h W)
  unfold geoV at HR ⊢
  clear h
  go_enter Tryz.func17, Tryz.ntmps17
  go_wp2_with fail
  refine (HR.out _).mono ?_
  rintro r w1 ⟨rfl, hb⟩
  have HB := Lib.hid (((Below.refl w.heap.size w).alloc (Nat.le_refl _) (.cells #[.int .i64 x, .int .i64 y, .int .i64 z] 23)).trans (hb.mono (by simp)))
  clear hb
  go_wp2
  go_ret2
  exact ⟨rfl, HB.out⟩
set_option maxRecDepth 100000 in
set_option maxHeartbeats 1000000 in
theorem rnew_no {x y z : Int} (h : ¬ GdI x y z) (v : Value) (w : World) :
    Calls Tryz.prog 23 #[geoV x y z, v] w fun e w' => e = .returned (.tuple #[.pointer none, .int .i64 1]) ∧ Below w.heap.size w w' := by
  have HR := Lib.hid (fun W => rright_no h W)
  unfold geoV at HR ⊢
  clear h
  go_enter Tryz.func23, Tryz.ntmps23
  go_wp2_with fail
  refine (HR.out _).mono ?_
  rintro r w1 ⟨rfl, hb⟩
  have HB := Lib.hid (((Below.refl w.heap.size w).alloc (Nat.le_refl _) (.cells #[.int .i64 x, .int .i64 y, .int .i64 z] 23)).trans (hb.mono (by simp)))
  clear hb
  go_wp2
  go_ret2
  exact ⟨rfl, HB.out⟩

set_option maxRecDepth 100000 in
set_option maxHeartbeats 4000000 in
theorem rnew_any (nb np sz : Nat) (w : World) (hg : Gd nb np sz) (X : Nat → Prop) (hX : ∀ b, X b → b < w.heap.size) (l : List Int) (a : Option Addr) (m c : Nat) (ha : Ri w a l) (hl : l.length = m) :
    Calls Tryz.prog 23 #[geoV nb np sz, .slice a m c] w fun e w' => Below w.heap.size w w' ∧
      (((∀ x ∈ l, 0 ≤ x ∧ x < nb) ∧ ∃ o : Rb, e = .returned (.tuple #[.pointer (some ⟨o.g, 0, none⟩), .int .i64 0]) ∧ RcAt w' (fun b => X b ∨ o.F b) o nb np sz false ∧ ∀ b, o.F b → w.heap.size ≤ b) ∨ ((∃ x ∈ l, ¬ (0 ≤ x ∧ x < nb)) ∧ e = .returned (.tuple #[.pointer none, .int .i64 1]))) := by
  have HR := Lib.hid (fun W => rright_yes (a := nb) (b := np) (s := sz) (by unfold Gd at hg; unfold GdI; omega) W)
  have HBl := Lib.hid (fun W (hW : w.heap.size ≤ W.heap.size) => rblank_any nb np sz W hg X (fun b h => Nat.lt_of_lt_of_le (hX b h) hW))
  clear hX
  have hnb : nb < 129 := hg.2.1
  have HA := Lib.hid ha
  have HL := Lib.hid hl
  have m9 : m ≤ 9223372036854775807 := by have := ha.1; unfold maxLen at this; omega
  have BG := Blk.new w 23 #[.int .i64 nb, .int .i64 np, .int .i64 sz]
  have HG1 := Lib.hid BG
  have q0 := BG.cell 0
  have q1 := BG.cell 1
  have q2 := BG.cell 2
  have HB0 := Lib.hid ((Below.refl w.heap.size w).alloc (Nat.le_refl _) (.cells #[.int .i64 nb, .int .i64 np, .int .i64 sz] 23))
  unfold geoV at HR HBl ⊢
  clear ha hl hg BG
  go_enter Tryz.func23, Tryz.ntmps23
  go_upto_region 1 with (fail)
  generalize (w.alloc (.cells #[.int .i64 nb, .int .i64 np, .int .i64 sz] 23)) = W at q0 q1 q2 HB0 HG1 ⊢
  obtain ⟨gb, hgb⟩ : ∃ gb, w.heap.size = gb := ⟨_, rfl⟩
  have HGb := Lib.hid hgb
  rw [hgb] at q0 q1 q2 HG1 ⊢
  clear hgb
  go_wp2_with fail
  refine (HR.out _).mono ?_
  rintro r w1 ⟨rfl, hb⟩
  have HB1 := Lib.hid (HB0.out.trans (hb.mono HB0.out.size))
  have HG2 := Lib.hid (HG1.out.below hb HG1.out.lt)
  clear hb q0 q1 q2 HG1
  have q0 : w1.cell? ⟨gb, 0, none⟩ = some (.int .i64 nb) := HG2.out.cell 0
  have q1 : w1.cell? ⟨gb, 1, none⟩ = some (.int .i64 np) := HG2.out.cell 1
  have q2 : w1.cell? ⟨gb, 2, none⟩ = some (.int .i64 sz) := HG2.out.cell 2
  go_wp2_with fail
  refine (HBl.out _ HB1.out.size).mono ?_
  rintro r w2 ⟨⟨o, rfl, hrc, hof⟩, hb⟩
  have HB2 := Lib.hid (HB1.out.trans (hb.mono HB1.out.size))
  have HG3 := Lib.hid (HG2.out.below hb HG2.out.lt)
  have HRC := Lib.hid hrc
  have HOF : Hid (∀ b, o.F b → w.heap.size ≤ b ∧ gb < b) := Lib.hid (fun b h => by
    have h1 := hof b h
    have h2 := HG2.out.lt
    have h3 := HB1.out.size
    omega)
  clear hb hrc hof q0 q1 q2 HG2
  go_wp2_with fail
  go_loopw [7] (fun i wr => ∃ j : Nat, j ≤ m ∧ i = .int .i64 j ∧ Hid (∀ n (hn : n < l.length), n < j → 0 ≤ l[n] ∧ l[n] < nb) ∧ Hid (RcAt wr (fun b => X b ∨ o.F b) o nb np sz false) ∧ Hid (Blk wr gb 23 #[.int .i64 nb, .int .i64 np, .int .i64 sz]) ∧ Hid (Below w.heap.size w wr)) (fun i _ => m - (intOf i).toNat)
  case atStart => exact ⟨0, by omega, rfl, Lib.hid fun n _ h => absurd h (Nat.not_lt_zero _), HRC, HG3, HB2⟩
  case round =>
    obtain ⟨j, hj, rfl, hA, hC, hG, hB⟩ := hrel
    by_cases hlt : j < m
    · have hjl : j < l.length := by have := HL.out; omega
      rcases HA.out.2 with h0 | ⟨b, off, rfl, hcs⟩
      · rw [h0] at hjl; simp at hjl
      have q9w := hcs j hjl
      have q0 := (hB.out.cell (block_lt_of_cell (hcs j hjl))).trans (hcs j hjl)
      have c0 := hG.out.cell 0
      have jl' : (j : Int) < (m : Int) := by omega
      have j0 : (0 : Int) ≤ (j : Int) := by omega
      have HNo : Hid (¬ (0 ≤ l[j] ∧ l[j] < (nb : Int)) → ∃ x ∈ l, ¬ (0 ≤ x ∧ x < (nb : Int))) := Lib.hid fun h => ⟨_, List.getElem_mem hjl, h⟩
      have HYes : Hid (0 ≤ l[j] ∧ l[j] < (nb : Int) → ∀ n (hn : n < l.length), n < j + 1 → 0 ≤ l[n] ∧ l[n] < nb) := Lib.hid fun h n hn g => by
        by_cases e : n = j
        · subst e; exact h
        · exact hA.out n hn (by omega)
      clear hcs
      generalize l[j] = x at q0 q9w HNo HYes
      by_cases hx0 : x < 0
      · have t0 : decide (x < 0) = true := decide_eq_true hx0
        have HN' := Lib.hid (HNo.out (by omega))
        clear hx0 HYes
        go_upto_region 7 with (fail)
        go_quiet (fail)
        go_wp2
        go_ret2
        exact ⟨below_drewN hB.out nq, .inr ⟨HN'.out, rfl⟩⟩
      have t0 : decide (x < 0) = false := decide_eq_false hx0
      by_cases hx1 : (nb : Int) ≤ x
      · have t1 : decide ((nb : Int) ≤ x) = true := decide_eq_true hx1
        have HN' := Lib.hid (HNo.out (by omega))
        clear hx0 hx1 HYes
        go_upto_region 7 with (fail)
        go_quiet (fail)
        go_wp2
        go_ret2
        exact ⟨below_drewN hB.out nq, .inr ⟨HN'.out, rfl⟩⟩
      have t1 : decide ((nb : Int) ≤ x) = false := decide_eq_false hx1
      obtain ⟨y, rfl⟩ : ∃ y : Nat, x = y := ⟨x.toNat, by omega⟩
      have yk : y < nb := by omega
      have y0 : (0 : Int) ≤ (y : Int) := by omega
      have y1 : (y : Int) < (nb : Int) := by omega
      obtain ⟨-, -, -, r6, -⟩ := hC.out.rows
      obtain ⟨-, -, ⟨zb, cb⟩, -⟩ := hC.out.row yk
      have fb := (hC.out.froz y).2.2.2.2.1
      have HY' := Lib.hid (HYes.out (by omega))
      clear hx0 hx1 HNo HYes
      go_upto_region 7 with (fail)
      go_quiet (fail)
      have C9 := Lib.hid (hC.out.below (below_drewN (Below.refl _ wr) nq))
      have G9 := Lib.hid (show Blk (wr.drewN nq) gb 23 _ from hG.out)
      have B9 := Lib.hid (below_drewN hB.out nq)
      go_upto_region 9 with (fail)
      generalize wr.drewN nq = W9 at C9 G9 B9 ⊢
      clear r6 cb fb
      obtain ⟨-, -, -, r6, -⟩ := C9.out.rows
      obtain ⟨-, -, ⟨zb, cb⟩, -⟩ := C9.out.row yk
      have fb := (C9.out.froz y).2.2.2.2.1
      have q9 := (B9.out.cell (block_lt_of_cell q9w)).trans q9w
      have C4 := Lib.hid ((C9.out.putb y true).below (Below.refl _ _).drew)
      have hne : gb ≠ o.b := by have := (HOF.out o.b (by simp [Rb.F])).2; omega
      have G4 := Lib.hid (show Blk (W9.setCell ⟨o.b, y, none⟩ (.bool true)).drew gb 23 _ from G9.out.far (p := ⟨o.b, y, none⟩) hne (.bool true))
      have B4 := Lib.hid (B9.out.setCell (p := ⟨o.b, y, none⟩) (HOF.out o.b (by simp [Rb.F])).1 (.bool true)).drew
      clear hne
      go_region
      go_wp2
      go_roundw
      case rel => exact ⟨j + 1, by omega, by go_num, HY', C4, G4, B4⟩
      case measure => simp [intOf]; omega
    · have kl : ¬ (j : Int) < (m : Int) := by omega
      have HAll : Hid (∀ x ∈ l, 0 ≤ x ∧ x < (nb : Int)) := Lib.hid fun x hx => by
        obtain ⟨n, hn, rfl⟩ := List.mem_iff_getElem.1 hx
        exact hA.out n hn (by have := HL.out; omega)
      go_wp2
      go_ret2
      exact ⟨hB.out, .inl ⟨HAll.out, o, rfl, hC.out, fun b hb => (HOF.out b hb).1⟩⟩

end Go.Proofs.YtjjggmopkfkpaaaGreat
