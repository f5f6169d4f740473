/-
  The document's chip in memory: a chip made anew.
-/
import Derived.Test.YtiaaeiefgnoiaaaRefBlank
namespace Go.Proofs.Ytiaaeiefgnoiaaa
open Go.RowKit Crcm Go.ChangeShapes

theorem Try.infoIn : (Try.prog.info? 3).map (fun i => (i.zero, i.size, i.bytes)) = some (some (.int .i64 0), 1, 8) := by kernel_rfl
theorem Try.infoBo : (Try.prog.info? 4).map (fun i => (i.zero, i.size, i.bytes)) = some (some (.bool false), 1, 1) := by kernel_rfl

theorem wpAnyH_cast {P : Program} {md : Region.Mode} {ops ops' : Array Oper} {Q : Exit → Act → World → Prop} {S : World → Prop} {n : Nat} {l l' : Array Bool} {a a' : Act} {w : World}
    (h : wpAnyH P md ops' Q S n l' a' w) (ho : ops' = ops) (hl : l' = l) (ha : a' = a) : wpAnyH P md ops Q S n l a w := by
  subst ho hl ha
  exact h
/-- a chip of rows that were made -/
theorem blank_rc {W : World} {X : Nat → Prop} (hX : ∀ b, X b → b < W.heap.size) {nb np sz N : Nat} {csP csI csB : Array Value} (hg : Gd nb np sz) (hN : nb * np = N) (hP : csP.size = N ∧ ∀ i, i < N → csP[i]? = some (.slice none 0 0)) (hI : csI.size = nb ∧ ∀ i, i < nb → csI[i]? = some (.int .i64 0)) (hB : csB.size = nb ∧ ∀ i, i < nb → csB[i]? = some (.bool false))
    {x0 x1 x2 x3 x4 x5 : Nat} (b0 : Blk W x0 27 csP) (b1 : Blk W x1 3 csI) (b2 : Blk W x2 4 csB) (b3 : Blk W x3 4 csB) (b4 : Blk W x4 3 csI)
    (b5 : Blk W x5 78 #[.int .i64 nb, .int .i64 np, .int .i64 sz, .slice (some ⟨x0, 0, none⟩) N N, .slice (some ⟨x1, 0, none⟩) nb nb, .slice (some ⟨x2, 0, none⟩) nb nb, .slice (some ⟨x3, 0, none⟩) nb nb, .slice (some ⟨x4, 0, none⟩) nb nb, .slice none 0 0, .int .i64 0, .bool false, .int .i64 0, .int .i64 0])
    (n01 : x0 ≠ x1) (n02 : x0 ≠ x2) (n03 : x0 ≠ x3) (n04 : x0 ≠ x4) (n12 : x1 ≠ x2) (n13 : x1 ≠ x3) (n14 : x1 ≠ x4) (n23 : x2 ≠ x3) (n24 : x2 ≠ x4) (n34 : x3 ≠ x4) (m0 : x0 < x5) (m1 : x1 < x5) (m2 : x2 < x5) (m3 : x3 < x5) (m4 : x4 < x5) :
    RcAt W (fun b => X b ∨ Rb.F ⟨x5, x0, x1, x2, x3, x4⟩ b) ⟨x5, x0, x1, x2, x3, x4⟩ nb np sz false := by
  subst hN
  refine ⟨hg, fun b hb => ?_, fun b hb => .inr hb, ⟨Nat.ne_of_gt m0, Nat.ne_of_gt m1, Nat.ne_of_gt m2, Nat.ne_of_gt m3, Nat.ne_of_gt m4, n01, n02, n03, n04, n12, n13, n14, n23, n24, n34⟩, ⟨_, [], _, _, _, b5, FlAt.nil⟩, ⟨csP, b0, hP.1, fun i hi => ⟨_, hP.2 i hi, ⟨Option.none, [], 0, rfl, Nat.le_refl _, RwX.nil⟩⟩⟩, ⟨csI, b1, hI.1, fun i hi => ⟨_, hI.2 i hi⟩⟩, ⟨csB, b2, hB.1, fun i hi => ⟨_, hB.2 i hi⟩⟩, ⟨csB, b3, hB.1, fun i hi => ⟨_, hB.2 i hi⟩⟩, ⟨csI, b4, hI.1, fun i hi => ⟨_, hI.2 i hi⟩⟩⟩
  · rcases hb with hb | hb
    · exact hX b hb
    rcases hb with e | e | e | e | e | e
    · rw [e]; exact b5.lt
    · rw [e]; exact b0.lt
    · rw [e]; exact b1.lt
    · rw [e]; exact b2.lt
    · rw [e]; exact b3.lt
    · rw [e]; exact b4.lt

set_option maxRecDepth 100000 in
set_option maxHeartbeats 4000000 in
theorem rblank_any (nb np sz : Nat) (w : World) (hg : Gd nb np sz) (X : Nat → Prop) (hX : ∀ b, X b → b < w.heap.size) :
    Calls Try.prog 35 #[geoV nb np sz] w fun e w' => (∃ o : Rb, e = .returned (.pointer (some ⟨o.g, 0, none⟩)) ∧ RcAt w' (fun b => X b ∨ o.F b) o nb np sz false ∧ ∀ b, o.F b → w.heap.size < b) ∧ Below w.heap.size w w' := by
  have HX := Lib.hid hX
  clear hX
  obtain ⟨i1, hi1, hz1, hs1, hb1⟩ := info_parts Try.infoIn
  obtain ⟨i2, hi2, hz2, hs2, hb2⟩ := info_parts Try.infoPg
  obtain ⟨i3, hi3, hz3, hs3, hb3⟩ := info_parts Try.infoBo
  have g1 : nb < 129 := hg.2.1
  have g2 : np < 33 := hg.2.2.2.1
  have hN4 : nb * np ≤ 128 * 33 := Nat.mul_le_mul (by omega) (by omega)
  obtain ⟨N, hN⟩ : ∃ N, nb * np = N := ⟨_, rfl⟩
  have hNi : IntKind.i64.wrap ((nb : Int) * (np : Int)) = (N : Int) := by
    have e : (nb : Int) * (np : Int) = (N : Int) := by rw [← hN]; push_cast; rfl
    rw [e]
    exact IntWalk.i64_in _ ⟨by omega, by omega⟩
  rw [hN] at hN4
  have hmI := fun W => run_make (P := Try.prog) W 26 3 i1 _ Try.underlying26 hi1 hz1 .i64 .i64 nb nb (by omega) (Int.le_refl _) (by rw [hb1]; omega) (by omega)
  have hmB := fun W => run_make (P := Try.prog) W 25 4 i3 _ Try.underlying25 hi3 hz3 .i64 .i64 nb nb (by omega) (Int.le_refl _) (by rw [hb3]; omega) (by omega)
  have hmP := fun W => run_make (P := Try.prog) W 24 27 i2 _ Try.underlying24 hi2 hz2 .i64 .i64 N N (by omega) (Int.le_refl _) (by rw [hb2]; omega) (by omega)
  simp only [Int.toNat_natCast, hs1, Nat.mul_one] at hmI
  simp only [Int.toNat_natCast, hs2, Nat.mul_one] at hmP
  simp only [Int.toNat_natCast, hs3, Nat.mul_one] at hmB
  have HI : Hid ((madeCells (Value.int .i64 0).cells nb).size = nb ∧ ∀ i, i < nb → (madeCells (Value.int .i64 0).cells nb)[i]? = some (.int .i64 0)) := Lib.hid ⟨size_madeCells _ _, fun i hi => made_get hi⟩
  have HB : Hid ((madeCells (Value.bool false).cells nb).size = nb ∧ ∀ i, i < nb → (madeCells (Value.bool false).cells nb)[i]? = some (.bool false)) := Lib.hid ⟨size_madeCells _ _, fun i hi => made_get hi⟩
  have HP : Hid ((madeCells (Value.slice none 0 0).cells N).size = N ∧ ∀ i, i < N → (madeCells (Value.slice none 0 0).cells N)[i]? = some (.slice none 0 0)) := Lib.hid ⟨size_madeCells _ _, fun i hi => made_get hi⟩
  generalize madeCells (Value.int .i64 0).cells nb = csI at hmI HI
  generalize madeCells (Value.bool false).cells nb = csB at hmB HB
  generalize madeCells (Value.slice none 0 0).cells N = csP at hmP HP
  have HN := Lib.hid hN
  have HG := Lib.hid hg
  have HMI := Lib.hid hmI
  have HMB := Lib.hid hmB
  have HMP := Lib.hid hmP
  clear hmI hmB hmP hi1 hz1 hs1 hb1 hi2 hz2 hs2 hb2 hi3 hz3 hs3 hb3 hg hN
  have BG := Blk.new w 23 #[.int .i64 nb, .int .i64 np, .int .i64 sz]
  have HS := Lib.hid (show GS w.heap.size nb np sz (w.alloc (.cells #[.int .i64 nb, .int .i64 np, .int .i64 sz] 23)).drew from ⟨BG.cell 0, BG.cell 1, BG.cell 2⟩)
  have HBe := Lib.hid ((Below.refl w.heap.size w).alloc (Nat.le_refl _) (.cells #[.int .i64 nb, .int .i64 np, .int .i64 sz] 23)).drew
  clear BG
  unfold geoV
  go_enter Try.func35, Try.ntmps35
  go_wp2_with fail
  generalize (w.alloc (.cells #[.int .i64 nb, .int .i64 np, .int .i64 sz] 23)) = W at HS HBe ⊢
  obtain ⟨g0, hg0⟩ : ∃ g0, w.heap.size = g0 := ⟨_, rfl⟩
  have HG0 := Lib.hid hg0
  rw [hg0] at HS ⊢
  clear hg0
  refine wp_region_held_drew (S := GS g0 nb np sz) (by kernel_rfl) HS.out (fun hHeld => ?_)
  refine wpAnyH_take (i := 0) (v := .agg #[.int .i64 nb, .int .i64 np, .int .i64 sz]) rfl (by kernel_rfl) (by kernel_rfl) (by kernel_rfl) (fun _ _ _ h => h) (Or.inl ⟨by kernel_rfl, ?_⟩) hHeld ?_
  · intro w' hSw
    obtain ⟨q0, q1, q2⟩ := hSw
    go_simp
  refine wpAnyH_take (i := 1) (v := .pointer (some ⟨g0, 0, none⟩)) rfl (by kernel_rfl) (by kernel_rfl) (by kernel_rfl) (fun _ _ _ h => h) (Or.inl ⟨by kernel_rfl, ?_⟩) hHeld ?_
  · intro w' hSw
    obtain ⟨q0, q1, q2⟩ := hSw
    go_simp
  refine wpAnyH_take (i := 2) (v := .int .i64 nb) rfl (by kernel_rfl) (by kernel_rfl) (by kernel_rfl) (fun _ _ _ h => h) (Or.inl ⟨by kernel_rfl, ?_⟩) hHeld ?_
  · intro w' hSw
    obtain ⟨q0, q1, q2⟩ := hSw
    go_simp
  refine wpAnyH_take (i := 3) (v := .pointer (some ⟨g0, 1, none⟩)) rfl (by kernel_rfl) (by kernel_rfl) (by kernel_rfl) (fun _ _ _ h => h) (Or.inl ⟨by kernel_rfl, ?_⟩) hHeld ?_
  · intro w' hSw
    obtain ⟨q0, q1, q2⟩ := hSw
    go_simp
  refine wpAnyH_take (i := 4) (v := .int .i64 np) rfl (by kernel_rfl) (by kernel_rfl) (by kernel_rfl) (fun _ _ _ h => h) (Or.inl ⟨by kernel_rfl, ?_⟩) hHeld ?_
  · intro w' hSw
    obtain ⟨q0, q1, q2⟩ := hSw
    go_simp
  refine wpAnyH_take (i := 5) (v := .int .i64 N) rfl (by kernel_rfl) (by kernel_rfl) (by kernel_rfl) (fun _ _ _ h => h) (Or.inl ⟨by kernel_rfl, ?_⟩) hHeld ?_
  · intro w' hSw
    obtain ⟨q0, q1, q2⟩ := hSw
    go_simp
  refine wpAnyH_take (i := 7) (v := .pointer (some ⟨g0, 0, none⟩)) rfl (by kernel_rfl) (by kernel_rfl) (by kernel_rfl) (fun _ _ _ h => h) (Or.inl ⟨by kernel_rfl, ?_⟩) hHeld ?_
  · intro w' hSw
    obtain ⟨q0, q1, q2⟩ := hSw
    go_simp
  refine wpAnyH_take (i := 8) (v := .int .i64 nb) rfl (by kernel_rfl) (by kernel_rfl) (by kernel_rfl) (fun _ _ _ h => h) (Or.inl ⟨by kernel_rfl, ?_⟩) hHeld ?_
  · intro w' hSw
    obtain ⟨q0, q1, q2⟩ := hSw
    go_simp
  refine wpAnyH_take (i := 10) (v := .pointer (some ⟨g0, 0, none⟩)) rfl (by kernel_rfl) (by kernel_rfl) (by kernel_rfl) (fun _ _ _ h => h) (Or.inl ⟨by kernel_rfl, ?_⟩) hHeld ?_
  · intro w' hSw
    obtain ⟨q0, q1, q2⟩ := hSw
    go_simp
  refine wpAnyH_take (i := 11) (v := .int .i64 nb) rfl (by kernel_rfl) (by kernel_rfl) (by kernel_rfl) (fun _ _ _ h => h) (Or.inl ⟨by kernel_rfl, ?_⟩) hHeld ?_
  · intro w' hSw
    obtain ⟨q0, q1, q2⟩ := hSw
    go_simp
  refine wpAnyH_take (i := 13) (v := .pointer (some ⟨g0, 0, none⟩)) rfl (by kernel_rfl) (by kernel_rfl) (by kernel_rfl) (fun _ _ _ h => h) (Or.inl ⟨by kernel_rfl, ?_⟩) hHeld ?_
  · intro w' hSw
    obtain ⟨q0, q1, q2⟩ := hSw
    go_simp
  refine wpAnyH_take (i := 14) (v := .int .i64 nb) rfl (by kernel_rfl) (by kernel_rfl) (by kernel_rfl) (fun _ _ _ h => h) (Or.inl ⟨by kernel_rfl, ?_⟩) hHeld ?_
  · intro w' hSw
    obtain ⟨q0, q1, q2⟩ := hSw
    go_simp
  refine wpAnyH_take (i := 16) (v := .pointer (some ⟨g0, 0, none⟩)) rfl (by kernel_rfl) (by kernel_rfl) (by kernel_rfl) (fun _ _ _ h => h) (Or.inl ⟨by kernel_rfl, ?_⟩) hHeld ?_
  · intro w' hSw
    obtain ⟨q0, q1, q2⟩ := hSw
    go_simp
  refine wpAnyH_take (i := 17) (v := .int .i64 nb) rfl (by kernel_rfl) (by kernel_rfl) (by kernel_rfl) (fun _ _ _ h => h) (Or.inl ⟨by kernel_rfl, ?_⟩) hHeld ?_
  · intro w' hSw
    obtain ⟨q0, q1, q2⟩ := hSw
    go_simp
  refine wpAnyH_cast (bl00000 (N := N) HMI.out HMB.out HMP.out ?hQ (fun _ _ _ _ h => h) _ hHeld HBe.out) (by kernel_rfl) (by kernel_rfl) (by kernel_rfl)
  case hQ =>
    intro W x0 x1 x2 x3 x4 x5 hb b0 b1 b2 b3 b4 b5 l0 l1 l2 l3 l4 n01 n02 n03 n04 n12 n13 n14 n23 n24 n34 m0 m1 m2 m3 m4
    have HR := Lib.hid (blank_rc (X := X) (fun b h => Nat.lt_of_lt_of_le (HX.out b h) hb.size) HG.out HN.out HP.out HI.out HB.out b0 b1 b2 b3 b4 b5 n01 n02 n03 n04 n12 n13 n14 n23 n24 n34 m0 m1 m2 m3 m4)
    have HL : Hid (∀ b, Rb.F ⟨x5, x0, x1, x2, x3, x4⟩ b → w.heap.size < b) := Lib.hid (by
      rw [HG0.out]
      intro b hb
      rcases hb with e | e | e | e | e | e <;> (dsimp only at e; omega))
    have HBb := Lib.hid hb
    clear hb b0 b1 b2 b3 b4 b5 l0 l1 l2 l3 l4 n01 n02 n03 n04 n12 n13 n14 n23 n24 n34 m0 m1 m2 m3 m4
    go_wp2
    go_ret
    exact ⟨⟨_, rfl, HR.out, HL.out⟩, HBb.out⟩

end Go.Proofs.Ytiaaeiefgnoiaaa
