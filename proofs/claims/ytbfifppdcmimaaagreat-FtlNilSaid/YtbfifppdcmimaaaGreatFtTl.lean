/-
  A translation without pages, made. Nothing of one statement alone stands here.
-/
import Derived.Test.YtbfifppdcmimaaaGreatFtTr
import Derived.Test.YtbfifppdcmimaaaGreatKB
namespace Go.Proofs.YtbfifppdcmimaaaGreat
open Go.RowKit Crcm Go.ChangeShapes

theorem wpAnyH_cast {P : Program} {md : Region.Mode} {ops ops' : Array Oper} {Q : Exit → Act → World → Prop} {S : World → Prop} {n : Nat} {l l' : Array Bool} {a a' : Act} {w : World}
    (h : wpAnyH P md ops' Q S n l' a' w) (ho : ops' = ops) (hl : l' = l) (ha : a' = a) : wpAnyH P md ops Q S n l a w := by
  subst ho hl ha
  exact h
theorem Tryz.infoLu : (Tryz.prog.info? 87).map (fun i => (i.zero, i.size, i.bytes)) = some (some (.slice none 0 0), 1, 24) := by kernel_rfl
theorem Tryz.infoBoT : (Tryz.prog.info? 4).map (fun i => (i.zero, i.size, i.bytes)) = some (some (.bool false), 1, 1) := by kernel_rfl

/-- the cells of a translation -/
def ftC (o : Own) (M : Value) (res bad cap : Int) (ap st : Bool) (tx : Value) (x1 x2 x3 : Nat) (seq ep : Int) (x4 x5 nb : Nat) (fl : Value) (bg : Bool) (bk : Int) : Array Value :=
  #[.pointer (some ⟨o.bc, 0, none⟩), M, .int .i64 res, .int .i64 bad, .int .i64 cap, .bool ap, .bool st, tx, .map (some x1), .map (some x2), .map (some x3), .int .u64 seq, .int .u64 ep, .slice (some ⟨x4, 0, none⟩) nb nb, .slice (some ⟨x5, 0, none⟩) nb nb, fl, .bool bg, .int .i64 bk]

set_option maxRecDepth 100000 in
set_option maxHeartbeats 2000000 in
theorem translation_any {w : World} {X : Nat → Prop} {o : Own} {c : Ch} (h : ChAt w X o c) (res bad : Int) (h2 : 0 ≤ bad ∧ bad ≤ 1000000) (h3 : 0 ≤ res ∧ res ≤ 1000000) :
    Calls Tryz.prog 28 #[.pointer (some ⟨o.bc, 0, none⟩), .int .i64 res, .int .i64 bad] w fun e w' => (∃ x1 x2 x3 x4 x5 x6, e = .returned (.pointer (some ⟨x6, 0, none⟩)) ∧
      Blk w' x6 58 (ftC o (.pointer none) res bad (((c.nb : Int) - bad - res - 1) * c.np - 2) false false (.slice none 0 0) x1 x2 x3 0 0 x4 x5 c.nb (.slice none 0 0) false 0) ∧
      MpAt w' x1 (fun _ => none) 0 ∧ MpAt w' x2 (fun _ => none) 0 ∧ MpAt w' x3 (fun _ => none) 0 ∧ Blk w' x4 4 (madeCells #[.bool false] c.nb) ∧ Blk w' x5 87 (madeCells #[.slice none 0 0] c.nb) ∧
      (w.heap.size ≤ x1 ∧ w.heap.size ≤ x2 ∧ w.heap.size ≤ x3 ∧ w.heap.size ≤ x4 ∧ w.heap.size ≤ x5) ∧ (x1 ≠ x2 ∧ x1 ≠ x3 ∧ x1 ≠ x4 ∧ x1 ≠ x5 ∧ x2 ≠ x3 ∧ x2 ≠ x4 ∧ x2 ≠ x5 ∧ x3 ≠ x4 ∧ x3 ≠ x5 ∧ x4 ≠ x5) ∧ (x1 < x6 ∧ x2 < x6 ∧ x3 < x6 ∧ x4 < x6 ∧ x5 < x6)) ∧ Below w.heap.size w w' := by
  obtain ⟨i1, hi1, hz1, hs1, hb1⟩ := info_parts Tryz.infoLu
  obtain ⟨i3, hi3, hz3, hs3, hb3⟩ := info_parts Tryz.infoBoT
  have hnb : c.nb < 129 := h.good.2.1
  have hnp : c.np < 33 := h.good.2.2.2.1
  have HG := Lib.hid (geo_any h)
  have hop : o.p = .pointer (some ⟨o.bc, 0, none⟩) := rfl
  rw [hop] at HG
  obtain ⟨nb, hn⟩ : ∃ n, c.nb = n := ⟨_, rfl⟩
  obtain ⟨np, hn2⟩ : ∃ n, c.np = n := ⟨_, rfl⟩
  obtain ⟨sz, hn3⟩ : ∃ n, c.sz = n := ⟨_, rfl⟩
  rw [hn, hn2, hn3] at HG
  rw [hn] at hnb
  rw [hn2] at hnp
  rw [hn, hn2]
  obtain ⟨D, hD⟩ : ∃ D : Int, (nb : Int) - bad - res - 1 = D := ⟨_, rfl⟩
  have HDb := Lib.hid (fun W => dataBlocks_any nb np sz bad res W hnb h2 h3)
  rw [hD] at HDb ⊢
  have hDb : -2000001 ≤ D ∧ D ≤ 128 := by omega
  have hpb : -66000033 ≤ D * (np : Int) ∧ D * (np : Int) ≤ 4224 := by
    obtain ⟨d1, d2⟩ := hDb
    have e1 : -2000001 * (np : Int) ≤ D * (np : Int) := Int.mul_le_mul_of_nonneg_right d1 (by omega)
    have e2 : D * (np : Int) ≤ 128 * (np : Int) := Int.mul_le_mul_of_nonneg_right d2 (by omega)
    omega
  obtain ⟨P, hPe⟩ : ∃ P : Int, D * (np : Int) = P := ⟨_, rfl⟩
  rw [hPe] at hpb
  have hP : IntKind.i64.wrap (D * (np : Int)) = P := by rw [hPe]; exact IntWalk.i64_in _ ⟨by omega, by omega⟩
  have hC : IntKind.i64.wrap (P - 2) = P - 2 := IntWalk.i64_in _ ⟨by omega, by omega⟩
  rw [hPe]
  obtain ⟨Cp, hCe⟩ : ∃ Cp : Int, P - 2 = Cp := ⟨_, rfl⟩
  rw [hCe] at hC ⊢
  rw [← hCe] at hC
  have hmU := fun W => run_make (P := Tryz.prog) W 55 87 i1 _ Tryz.underlying55 hi1 hz1 .i64 .i64 nb nb (by omega) (Int.le_refl _) (by rw [hb1]; omega) (by omega)
  have hmB := fun W => run_make (P := Tryz.prog) W 54 4 i3 _ Tryz.underlying54 hi3 hz3 .i64 .i64 nb nb (by omega) (Int.le_refl _) (by rw [hb3]; omega) (by omega)
  simp only [Int.toNat_natCast, hs1, Nat.mul_one] at hmU
  simp only [Int.toNat_natCast, hs3, Nat.mul_one] at hmB
  have eU : (Value.slice none 0 0).cells = #[.slice none 0 0] := rfl
  have eB : (Value.bool false).cells = #[.bool false] := rfl
  rw [eU] at hmU
  rw [eB] at hmB
  have HMU := Lib.hid hmU
  have HMB := Lib.hid hmB
  have HP := Lib.hid hP
  have HC := Lib.hid (show IntKind.i64.wrap (P - 2) = Cp by rw [hC]; exact hCe)
  clear hmU hmB hi1 hz1 hs1 hb1 hi3 hz3 hs3 hb3 h hop hn hn2 hn3 hD hDb hpb hPe hP hC hCe eU eB h2 h3
  go_enter Tryz.func28, Tryz.ntmps28
  go_wp2_with fail
  refine HG.out.mono ?_
  rintro e w1 ⟨rfl, hb1⟩
  have BG := Blk.new w1 38 #[.int .i64 nb, .int .i64 np, .int .i64 sz]
  have HBe := Lib.hid (hb1.alloc hb1.size (.cells #[.int .i64 nb, .int .i64 np, .int .i64 sz] 38)).drew
  have HS := Lib.hid (show GT w1.heap.size nb np sz (w1.alloc (.cells #[.int .i64 nb, .int .i64 np, .int .i64 sz] 38)).drew from ⟨BG.cell 0, BG.cell 1, BG.cell 2⟩)
  clear hb1 HG BG
  go_upto_region 2 with (fail)
  generalize (w1.alloc (.cells #[.int .i64 nb, .int .i64 np, .int .i64 sz] 38)) = W at HS HBe ⊢
  generalize w1.heap.size = g0 at HS ⊢
  refine wp_region_held_drew (S := GT g0 nb np sz) (by kernel_rfl) HS.out (fun hHeld => ?_)
  refine wpAnyH_take (i := 0) (v := .pointer (some ⟨o.bc, 0, none⟩)) rfl (by kernel_rfl) (by kernel_rfl) (by kernel_rfl) (fun _ _ _ h => h) (Or.inl ⟨by kernel_rfl, ?_⟩) hHeld ?_
  · intro w' hSw
    obtain ⟨q0, q1, q2⟩ := hSw
    go_simp
  refine wpAnyH_take (i := 1) (v := .int .i64 res) rfl (by kernel_rfl) (by kernel_rfl) (by kernel_rfl) (fun _ _ _ h => h) (Or.inl ⟨by kernel_rfl, ?_⟩) hHeld ?_
  · intro w' hSw
    obtain ⟨q0, q1, q2⟩ := hSw
    go_simp
  refine wpAnyH_take (i := 2) (v := .int .i64 bad) rfl (by kernel_rfl) (by kernel_rfl) (by kernel_rfl) (fun _ _ _ h => h) (Or.inl ⟨by kernel_rfl, ?_⟩) hHeld ?_
  · intro w' hSw
    obtain ⟨q0, q1, q2⟩ := hSw
    go_simp
  refine wpAnyH_take (i := 3) (v := .agg #[.int .i64 nb, .int .i64 np, .int .i64 sz]) rfl (by kernel_rfl) (by kernel_rfl) (by kernel_rfl) (fun _ _ _ h => h) (Or.inl ⟨by kernel_rfl, ?_⟩) hHeld ?_
  · intro w' hSw
    obtain ⟨q0, q1, q2⟩ := hSw
    go_simp
  refine wpAnyH_take (i := 4) (v := .int .i64 bad) rfl (by kernel_rfl) (by kernel_rfl) (by kernel_rfl) (fun _ _ _ h => h) (Or.inl ⟨by kernel_rfl, ?_⟩) hHeld ?_
  · intro w' hSw
    obtain ⟨q0, q1, q2⟩ := hSw
    go_simp
  refine wpAnyH_take (i := 5) (v := .int .i64 res) rfl (by kernel_rfl) (by kernel_rfl) (by kernel_rfl) (fun _ _ _ h => h) (Or.inl ⟨by kernel_rfl, ?_⟩) hHeld ?_
  · intro w' hSw
    obtain ⟨q0, q1, q2⟩ := hSw
    go_simp
  refine wpAnyH_take (i := 7) (v := .pointer (some ⟨g0, 1, none⟩)) rfl (by kernel_rfl) (by kernel_rfl) (by kernel_rfl) (fun _ _ _ h => h) (Or.inl ⟨by kernel_rfl, ?_⟩) hHeld ?_
  · intro w' hSw
    obtain ⟨q0, q1, q2⟩ := hSw
    go_simp
  refine wpAnyH_take (i := 8) (v := .int .i64 np) rfl (by kernel_rfl) (by kernel_rfl) (by kernel_rfl) (fun _ _ _ h => h) (Or.inl ⟨by kernel_rfl, ?_⟩) hHeld ?_
  · intro w' hSw
    obtain ⟨q0, q1, q2⟩ := hSw
    go_simp
  refine wpAnyH_take (i := 14) (v := .pointer (some ⟨g0, 0, none⟩)) rfl (by kernel_rfl) (by kernel_rfl) (by kernel_rfl) (fun _ _ _ h => h) (Or.inl ⟨by kernel_rfl, ?_⟩) hHeld ?_
  · intro w' hSw
    obtain ⟨q0, q1, q2⟩ := hSw
    go_simp
  refine wpAnyH_take (i := 15) (v := .int .i64 nb) rfl (by kernel_rfl) (by kernel_rfl) (by kernel_rfl) (fun _ _ _ h => h) (Or.inl ⟨by kernel_rfl, ?_⟩) hHeld ?_
  · intro w' hSw
    obtain ⟨q0, q1, q2⟩ := hSw
    go_simp
  refine wpAnyH_take (i := 17) (v := .pointer (some ⟨g0, 0, none⟩)) rfl (by kernel_rfl) (by kernel_rfl) (by kernel_rfl) (fun _ _ _ h => h) (Or.inl ⟨by kernel_rfl, ?_⟩) hHeld ?_
  · intro w' hSw
    obtain ⟨q0, q1, q2⟩ := hSw
    go_simp
  refine wpAnyH_take (i := 18) (v := .int .i64 nb) rfl (by kernel_rfl) (by kernel_rfl) (by kernel_rfl) (fun _ _ _ h => h) (Or.inl ⟨by kernel_rfl, ?_⟩) hHeld ?_
  · intro w' hSw
    obtain ⟨q0, q1, q2⟩ := hSw
    go_simp
  refine wpAnyH_cast (tr000000 (cb := o.bc) HDb.out HP.out HC.out (fun t W => run_makeMap t W) HMB.out HMU.out ?hQ (fun _ _ _ _ _ h => h) _ hHeld HBe.out) (by kernel_rfl) (by kernel_rfl) (by kernel_rfl)
  case hQ =>
    intro W9 x1 x2 x3 x4 x5 x6 hb m1 m2 m3 m4 m5 m6 l1 l2 l3 l4 l5 n12 n13 n14 n15 n23 n24 n25 n34 n35 n45 k1 k2 k3 k4 k5
    have HEnd : Hid ((Blk W9 x6 58 (ftC o (.pointer none) res bad Cp false false (.slice none 0 0) x1 x2 x3 0 0 x4 x5 nb (.slice none 0 0) false 0) ∧
      MpAt W9 x1 (fun _ => none) 0 ∧ MpAt W9 x2 (fun _ => none) 0 ∧ MpAt W9 x3 (fun _ => none) 0 ∧ Blk W9 x4 4 (madeCells #[.bool false] nb) ∧ Blk W9 x5 87 (madeCells #[.slice none 0 0] nb) ∧
      (w.heap.size ≤ x1 ∧ w.heap.size ≤ x2 ∧ w.heap.size ≤ x3 ∧ w.heap.size ≤ x4 ∧ w.heap.size ≤ x5) ∧ (x1 ≠ x2 ∧ x1 ≠ x3 ∧ x1 ≠ x4 ∧ x1 ≠ x5 ∧ x2 ≠ x3 ∧ x2 ≠ x4 ∧ x2 ≠ x5 ∧ x3 ≠ x4 ∧ x3 ≠ x5 ∧ x4 ≠ x5) ∧ (x1 < x6 ∧ x2 < x6 ∧ x3 < x6 ∧ x4 < x6 ∧ x5 < x6)) ∧ Below w.heap.size w W9) := Lib.hid ⟨⟨m6, ⟨#[], 0, m1, rfl, by simp, by simp, by simp, by simp, by simp⟩, ⟨#[], 0, m2, rfl, by simp, by simp, by simp, by simp, by simp⟩, ⟨#[], 0, m3, rfl, by simp, by simp, by simp, by simp, by simp⟩, m4, m5, ⟨l1, l2, l3, l4, l5⟩, ⟨n12, n13, n14, n15, n23, n24, n25, n34, n35, n45⟩, ⟨k1, k2, k3, k4, k5⟩⟩, hb⟩
    clear hb m1 m2 m3 m4 m5 m6 l1 l2 l3 l4 l5 n12 n13 n14 n15 n23 n24 n25 n34 n35 n45 k1 k2 k3 k4 k5
    go_wp2
    go_ret
    exact ⟨⟨x1, x2, x3, x4, x5, x6, rfl, HEnd.out.1⟩, HEnd.out.2⟩
end Go.Proofs.YtbfifppdcmimaaaGreat
