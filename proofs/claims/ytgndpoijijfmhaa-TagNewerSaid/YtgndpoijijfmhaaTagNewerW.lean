/-
  The statement on which of any tags is newer.
-/
import Derived.Test.YtgndpoijijfmhaaTagLaws
namespace Go.Proofs.Ytgndpoijijfmhaa
open Go.RowKit Crcm Tagm Go.ChangeShapes

theorem newer_lit (k p s e k' p' s' e' : Int) (r : Bool) (h : decide (s' < s) = r) (w : World) :
    Calls Try.prog 24 #[.agg #[.int .i64 k, .int .u32 p, .int .u64 s, .int .u64 e], .agg #[.int .i64 k', .int .u32 p', .int .u64 s', .int .u64 e']] w fun q w' => q = .returned (.bool r) ∧ Below w.heap.size w w' := by
  have H := Lib.hid h
  clear h
  go_enter Try.func24, Try.ntmps24
  go_wp2
  go_ret
  exact ⟨ret_bool H.out, ((Below.refl _ _).alloc (Nat.le_refl _) _).alloc (by simp) _⟩

/-- the three tags in their blocks -/
def T3 (w : World) (k p s e k1 p1 s1 e1 k2 p2 s2 e2 : Int) : World :=
  ((w.alloc (.cells #[.int .i64 k, .int .u32 p, .int .u64 s, .int .u64 e] 25)).alloc (.cells #[.int .i64 k1, .int .u32 p1, .int .u64 s1, .int .u64 e1] 25)).alloc (.cells #[.int .i64 k2, .int .u32 p2, .int .u64 s2, .int .u64 e2] 25)
theorem T3_bel (w : World) (k p s e k1 p1 s1 e1 k2 p2 s2 e2 : Int) : Below w.heap.size w (T3 w k p s e k1 p1 s1 e1 k2 p2 s2 e2) :=
  (((Below.refl _ _).alloc (Nat.le_refl _) _).alloc (by simp) _).alloc (by simp; omega) _
theorem T3_at (w : World) (k p s e k1 p1 s1 e1 k2 p2 s2 e2 : Int) :
    TgAt (T3 w k p s e k1 p1 s1 e1 k2 p2 s2 e2) w.heap.size k p s e ∧ TgAt (T3 w k p s e k1 p1 s1 e1 k2 p2 s2 e2) (w.heap.size + 1) k1 p1 s1 e1 ∧ TgAt (T3 w k p s e k1 p1 s1 e1 k2 p2 s2 e2) (w.heap.size + 1 + 1) k2 p2 s2 e2 ∧ w.heap.size + 3 = (T3 w k p s e k1 p1 s1 e1 k2 p2 s2 e2).heap.size := by
  unfold T3
  generalize hA : w.alloc (.cells #[.int .i64 k, .int .u32 p, .int .u64 s, .int .u64 e] 25) = A
  have hAs : A.heap.size = w.heap.size + 1 := by rw [← hA]; simp
  generalize hB : A.alloc (.cells #[.int .i64 k1, .int .u32 p1, .int .u64 s1, .int .u64 e1] 25) = B
  have hBs : B.heap.size = w.heap.size + 1 + 1 := by rw [← hB]; simp [hAs]
  have a0 : TgAt A w.heap.size k p s e := by rw [← hA]; exact TgAt.new w k p s e _
  have b0 : TgAt B (w.heap.size + 1) k1 p1 s1 e1 := by rw [← hB, ← hAs]; exact TgAt.new A k1 p1 s1 e1 _
  have ab : Below A.heap.size A B := by rw [← hB]; exact (Below.refl _ _).alloc (Nat.le_refl _) _
  have bc : Below B.heap.size B (B.alloc (.cells #[.int .i64 k2, .int .u32 p2, .int .u64 s2, .int .u64 e2] 25)) := (Below.refl _ _).alloc (Nat.le_refl _) _
  refine ⟨(a0.below ab (by omega)).below bc (by omega), b0.below bc (by omega), ?_, by simp [hBs]⟩
  rw [← hBs]
  exact TgAt.new B k2 p2 s2 e2 _

set_option maxRecDepth 100000 in
set_option maxHeartbeats 2000000 in
theorem tagNewer_walk (k p s e k1 p1 s1 e1 k2 p2 s2 e2 : Int) (w : World) (_h0 : (Lit.int .i64 k).wf = true) (_h1 : (Lit.int .u32 p).wf = true) (_h2 : (Lit.int .u64 s).wf = true) (_h3 : (Lit.int .u64 e).wf = true)
    (_h4 : (Lit.int .i64 k1).wf = true) (_h5 : (Lit.int .u32 p1).wf = true) (_h6 : (Lit.int .u64 s1).wf = true) (_h7 : (Lit.int .u64 e1).wf = true)
    (_h8 : (Lit.int .i64 k2).wf = true) (_h9 : (Lit.int .u32 p2).wf = true) (_h10 : (Lit.int .u64 s2).wf = true) (_h11 : (Lit.int .u64 e2).wf = true) :
    Calls Try.prog 5 #[.agg #[.int .i64 k, .int .u32 p, .int .u64 s, .int .u64 e], .agg #[.int .i64 k1, .int .u32 p1, .int .u64 s1, .int .u64 e1], .agg #[.int .i64 k2, .int .u32 p2, .int .u64 s2, .int .u64 e2]] w fun r w' => r = .returned (.bool true) ∧ Below w.heap.size w w' := by
  clear _h0 _h1 _h2 _h3 _h4 _h5 _h6 _h7 _h8 _h9 _h10 _h11
  obtain ⟨ta, tb, tc, hs⟩ := T3_at w k p s e k1 p1 s1 e1 k2 p2 s2 e2
  have hbel := T3_bel w k p s e k1 p1 s1 e1 k2 p2 s2 e2
  obtain ⟨W, hW⟩ : ∃ W, ((w.alloc (.cells #[.int .i64 k, .int .u32 p, .int .u64 s, .int .u64 e] 25)).alloc (.cells #[.int .i64 k1, .int .u32 p1, .int .u64 s1, .int .u64 e1] 25)).alloc (.cells #[.int .i64 k2, .int .u32 p2, .int .u64 s2, .int .u64 e2] 25) = W := ⟨_, rfl⟩
  have hT : T3 w k p s e k1 p1 s1 e1 k2 p2 s2 e2 = W := hW
  rw [hT] at ta tb tc hs hbel
  have HW := Lib.hid hW
  have HBEL := Lib.hid hbel
  have ta' := Lib.hid (fun q : Later W => ta.later (by omega) q)
  have tb' := Lib.hid (fun q : Later W => tb.later (by omega) q)
  have tc' := Lib.hid (fun q : Later W => tc.later (by omega) q)
  have A0 : ∀ q : Later W, q.to.cell? ⟨w.heap.size, 0, none⟩ = some (.int .i64 k) := fun q => (ta'.out q).1
  have A1 : ∀ q : Later W, q.to.cell? ⟨w.heap.size, 1, none⟩ = some (.int .u32 p) := fun q => (ta'.out q).2.1
  have A2 : ∀ q : Later W, q.to.cell? ⟨w.heap.size, 2, none⟩ = some (.int .u64 s) := fun q => (ta'.out q).2.2.1
  have A3 : ∀ q : Later W, q.to.cell? ⟨w.heap.size, 3, none⟩ = some (.int .u64 e) := fun q => (ta'.out q).2.2.2
  have B0 : ∀ q : Later W, q.to.cell? ⟨w.heap.size + 1, 0, none⟩ = some (.int .i64 k1) := fun q => (tb'.out q).1
  have B1 : ∀ q : Later W, q.to.cell? ⟨w.heap.size + 1, 1, none⟩ = some (.int .u32 p1) := fun q => (tb'.out q).2.1
  have B2 : ∀ q : Later W, q.to.cell? ⟨w.heap.size + 1, 2, none⟩ = some (.int .u64 s1) := fun q => (tb'.out q).2.2.1
  have B3 : ∀ q : Later W, q.to.cell? ⟨w.heap.size + 1, 3, none⟩ = some (.int .u64 e1) := fun q => (tb'.out q).2.2.2
  have C0 : ∀ q : Later W, q.to.cell? ⟨w.heap.size + 1 + 1, 0, none⟩ = some (.int .i64 k2) := fun q => (tc'.out q).1
  have C1 : ∀ q : Later W, q.to.cell? ⟨w.heap.size + 1 + 1, 1, none⟩ = some (.int .u32 p2) := fun q => (tc'.out q).2.1
  have C2 : ∀ q : Later W, q.to.cell? ⟨w.heap.size + 1 + 1, 2, none⟩ = some (.int .u64 s2) := fun q => (tc'.out q).2.2.1
  have C3 : ∀ q : Later W, q.to.cell? ⟨w.heap.size + 1 + 1, 3, none⟩ = some (.int .u64 e2) := fun q => (tc'.out q).2.2.2
  clear ta tb tc hbel hT hW
  by_cases hP : s1 < s
  · have dP : decide (s1 < s) = true := by simpa using hP
    have dR : decide (s < s1) = false := by simp; omega
    have NP := Lib.hid (fun w => newer_lit k p s e k1 p1 s1 e1 true dP w)
    have NR := Lib.hid (fun w => newer_lit k1 p1 s1 e1 k p s e false dR w)
    by_cases hQ : s2 < s1
    · have NQ := Lib.hid (fun w => newer_lit k1 p1 s1 e1 k2 p2 s2 e2 true (by simpa using hQ) w)
      have NS := Lib.hid (fun w => newer_lit k p s e k2 p2 s2 e2 true (by simp; omega) w)
      clear hQ hP dR
      go_enter Try.func5, Try.ntmps5
      go_wp2_with fail
      rw [HW.out]
      refine wp_region_later (by kernel_rfl) (by kernel_rfl) ?_
      repeat (go_big_quiet_step (with_reducible first | exact later_below (NP.out _) | exact later_below (NQ.out _) | exact later_below (NS.out _)))
      refine wpQuiet_nil ?_
      rintro _ ⟨q, rfl⟩
      obtain ⟨a0, a1, a2, a3⟩ := ta'.out q
      obtain ⟨b0, b1, b2, b3⟩ := tb'.out q
      go_wp2_with fail
      refine (NP.out _).mono ?_
      rintro r w5 ⟨rfl, hb5⟩
      obtain ⟨a0', a1', a2', a3'⟩ := (ta'.out q).below hb5 (by have := q.bel.size; omega)
      obtain ⟨b0', b1', b2', b3'⟩ := (tb'.out q).below hb5 (by have := q.bel.size; omega)
      go_wp2_with fail
      refine (NR.out _).mono ?_
      rintro r w6 ⟨rfl, hb6⟩
      go_wp2_with fail
      refine (known_any _).mono ?_
      rintro r w7 ⟨rfl, hb7⟩
      go_wp2
      go_ret
      have z1 := HBEL.out.size
      have z2 := q.bel.size
      have z3 := hb5.size
      have z4 := hb6.size
      exact ⟨rfl, HBEL.out.trans ((q.bel.mono (by omega)).trans ((hb5.mono (by omega)).trans ((hb6.mono (by omega)).trans (hb7.mono (by omega)))))⟩
    · have NQ := Lib.hid (fun w => newer_lit k1 p1 s1 e1 k2 p2 s2 e2 false (by simp; omega) w)
      clear hQ hP dR
      go_enter Try.func5, Try.ntmps5
      go_wp2_with fail
      rw [HW.out]
      refine wp_region_later (by kernel_rfl) (by kernel_rfl) ?_
      repeat (go_big_quiet_step (with_reducible first | exact later_below (NP.out _) | exact later_below (NQ.out _)))
      refine wpQuiet_nil ?_
      rintro _ ⟨q, rfl⟩
      obtain ⟨a0, a1, a2, a3⟩ := ta'.out q
      obtain ⟨b0, b1, b2, b3⟩ := tb'.out q
      go_wp2_with fail
      refine (NP.out _).mono ?_
      rintro r w5 ⟨rfl, hb5⟩
      obtain ⟨a0', a1', a2', a3'⟩ := (ta'.out q).below hb5 (by have := q.bel.size; omega)
      obtain ⟨b0', b1', b2', b3'⟩ := (tb'.out q).below hb5 (by have := q.bel.size; omega)
      go_wp2_with fail
      refine (NR.out _).mono ?_
      rintro r w6 ⟨rfl, hb6⟩
      go_wp2_with fail
      refine (known_any _).mono ?_
      rintro r w7 ⟨rfl, hb7⟩
      go_wp2
      go_ret
      have z1 := HBEL.out.size
      have z2 := q.bel.size
      have z3 := hb5.size
      have z4 := hb6.size
      exact ⟨rfl, HBEL.out.trans ((q.bel.mono (by omega)).trans ((hb5.mono (by omega)).trans ((hb6.mono (by omega)).trans (hb7.mono (by omega)))))⟩
  · have dP : decide (s1 < s) = false := by simpa using hP
    have NP := Lib.hid (fun w => newer_lit k p s e k1 p1 s1 e1 false dP w)
    clear hP
    go_enter Try.func5, Try.ntmps5
    go_wp2_with fail
    rw [HW.out]
    refine wp_region_later (by kernel_rfl) (by kernel_rfl) ?_
    repeat (go_big_quiet_step (with_reducible first | exact later_below (NP.out _)))
    refine wpQuiet_nil ?_
    rintro _ ⟨q, rfl⟩
    obtain ⟨a0, a1, a2, a3⟩ := ta'.out q
    obtain ⟨b0, b1, b2, b3⟩ := tb'.out q
    go_wp2_with fail
    refine (NP.out _).mono ?_
    rintro r w5 ⟨rfl, hb5⟩
    go_wp2_with fail
    refine (known_any _).mono ?_
    rintro r w7 ⟨rfl, hb7⟩
    go_wp2
    go_ret
    have z1 := HBEL.out.size
    have z2 := q.bel.size
    have z3 := hb5.size
    exact ⟨rfl, HBEL.out.trans ((q.bel.mono (by omega)).trans ((hb5.mono (by omega)).trans (hb7.mono (by omega))))⟩

end Go.Proofs.Ytgndpoijijfmhaa
