/-
  The statement that ways of unlike pages are unlike, and go on without a gap.
-/
import Derived.Test.YtolahkfjlifnoaaInoGaps
namespace Go.Proofs.Ytolahkfjlifnoaa
open Go.RowKit Crcm Tagm Inom Go.ChangeShapes

theorem way_ok {s n : Int} (h : toE s n = 0) : tl s n = lv s n ∧ tf s n = fi s n ∧ tc s n = se s n := by unfold tl tf tc; rw [if_pos h, if_pos h, if_pos h]; exact ⟨rfl, rfl, rfl⟩

theorem way_inj {s n m : Int} (hs : Sz s) (h0 : lv s n = lv s m) (h1 : fi s n = fi s m) (h2 : se s n = se s m) : n = m := by
  rcases hs with rfl | rfl | rfl | rfl <;>
  · unfold lv at h0
    unfold fi at h1
    unfold se at h2
    simp only [Int.reduceDiv, Int.reduceAdd] at h0 h1 h2
    split at h0 <;> split at h0 <;> simp_all <;> omega
theorem way_df {s n m : Int} (hs : Sz s) : Df n m (lv s n) (fi s n) (se s n) (lv s m) (fi s m) (se s m) := by
  unfold Df
  by_cases e : n = m
  · subst e; exact .inl ⟨rfl, rfl, rfl, rfl⟩
  · by_cases h0 : lv s n = lv s m
    · by_cases h1 : fi s n = fi s m
      · by_cases h2 : se s n = se s m
        · exact absurd (way_inj hs h0 h1 h2) e
        · exact .inr (.inr (.inr ⟨e, h0, h1, h2⟩))
      · exact .inr (.inr (.inl ⟨e, h0, h1⟩))
    · exact .inr (.inl ⟨e, h0⟩)

/-- the six ways in which a way goes on -/
def Nx (k a0 a1 a2 c0 c1 c2 : Int) : Prop :=
  (a0 = 0 ∧ (0 ≤ a1 ∧ a1 ≤ 4) ∧ a2 = 0 ∧ c0 = 0 ∧ c1 = a1 + 1 ∧ c2 = 0) ∨ (a0 = 0 ∧ a1 = 5 ∧ a2 = 0 ∧ c0 = 1 ∧ c1 = 0 ∧ c2 = 0) ∨
  (a0 = 1 ∧ (0 ≤ a1 ∧ a1 ≤ 300) ∧ a2 = 0 ∧ c0 = 1 ∧ c1 = a1 + 1 ∧ c2 = 0) ∨ (a0 = 1 ∧ a1 = k - 1 ∧ a2 = 0 ∧ c0 = 2 ∧ c1 = 0 ∧ c2 = 0) ∨
  (a0 = 2 ∧ (0 ≤ a1 ∧ a1 ≤ 300) ∧ (0 ≤ a2 ∧ a2 ≤ 300) ∧ c0 = 2 ∧ c1 = a1 ∧ c2 = a2 + 1) ∨ (a0 = 2 ∧ (0 ≤ a1 ∧ a1 ≤ 300) ∧ a2 = k - 1 ∧ c0 = 2 ∧ c1 = a1 + 1 ∧ c2 = 0)
theorem wy0 {s n : Int} (hs : 64 ≤ s) (h : n < 6) : lv s n = 0 ∧ fi s n = n ∧ se s n = 0 := by unfold lv fi se; exact ⟨if_pos h, if_pos h, if_pos (by omega)⟩
theorem wy1 {s n : Int} (h0 : 6 ≤ n) (h : n < 6 + s / 2) : lv s n = 1 ∧ fi s n = n - 6 ∧ se s n = 0 := by unfold lv fi se; exact ⟨by rw [if_neg (by omega), if_pos h], by rw [if_neg (by omega), if_pos h], if_pos h⟩
theorem wy2 {s n : Int} (hs : 64 ≤ s) (h : 6 + s / 2 ≤ n) : lv s n = 2 ∧ fi s n = (n - 6 - s / 2) / (s / 2) ∧ se s n = (n - 6 - s / 2) % (s / 2) := by unfold lv fi se; exact ⟨by rw [if_neg (by omega), if_neg (by omega)], by rw [if_neg (by omega), if_neg (by omega)], if_neg (by omega)⟩
theorem way_next {s n : Int} (hs : Sz s) (h0 : 0 ≤ n) (h1 : n + 1 < pgs s) : Nx (s / 2) (lv s n) (fi s n) (se s n) (lv s (n + 1)) (fi s (n + 1)) (se s (n + 1)) := by
  have hb : 64 ≤ s ∧ s ≤ 512 := by unfold Sz at hs; omega
  unfold Nx
  by_cases a : n < 5
  · obtain ⟨e1, e2, e3⟩ := wy0 hb.1 (by omega : n < 6)
    obtain ⟨f1, f2, f3⟩ := wy0 hb.1 (by omega : n + 1 < 6)
    rw [e1, e2, e3, f1, f2, f3]
    exact .inl ⟨rfl, ⟨h0, by omega⟩, rfl, rfl, rfl, rfl⟩
  by_cases b : n = 5
  · subst b
    obtain ⟨e1, e2, e3⟩ := wy0 hb.1 (by omega : (5 : Int) < 6)
    obtain ⟨f1, f2, f3⟩ := wy1 (s := s) (by omega : (6 : Int) ≤ 5 + 1) (by omega)
    rw [e1, e2, e3, f1, f2, f3]
    exact .inr (.inl ⟨rfl, rfl, rfl, rfl, by omega, rfl⟩)
  by_cases c : n + 1 < 6 + s / 2
  · obtain ⟨e1, e2, e3⟩ := wy1 (s := s) (by omega : (6 : Int) ≤ n) (by omega)
    obtain ⟨f1, f2, f3⟩ := wy1 (s := s) (by omega : (6 : Int) ≤ n + 1) c
    rw [e1, e2, e3, f1, f2, f3]
    exact .inr (.inr (.inl ⟨rfl, ⟨by omega, by omega⟩, rfl, rfl, by omega, rfl⟩))
  by_cases d : n < 6 + s / 2
  · obtain ⟨e1, e2, e3⟩ := wy1 (s := s) (by omega : (6 : Int) ≤ n) d
    obtain ⟨f1, f2, f3⟩ := wy2 hb.1 (by omega : 6 + s / 2 ≤ n + 1)
    have hz : n + 1 - 6 - s / 2 = 0 := by omega
    rw [e1, e2, e3, f1, f2, f3, hz, Int.zero_ediv, Int.zero_emod]
    exact .inr (.inr (.inr (.inl ⟨rfl, by omega, rfl, rfl, rfl, rfl⟩)))
  · obtain ⟨e1, e2, e3⟩ := wy2 hb.1 (by omega : 6 + s / 2 ≤ n)
    obtain ⟨f1, f2, f3⟩ := wy2 hb.1 (by omega : 6 + s / 2 ≤ n + 1)
    rw [e1, e2, e3, f1, f2, f3]
    rcases hs with rfl | rfl | rfl | rfl
    all_goals
      simp only [pgs, Int.reduceDiv, Int.reduceMul, Int.reduceAdd] at h1 d ⊢
    · by_cases g : (n - 6 - 32) % 32 = 31
      · exact .inr (.inr (.inr (.inr (.inr ⟨trivial, ⟨by omega, by omega⟩, by omega, trivial, by omega, by omega⟩))))
      · exact .inr (.inr (.inr (.inr (.inl ⟨trivial, ⟨by omega, by omega⟩, ⟨by omega, by omega⟩, trivial, by omega, by omega⟩))))
    · by_cases g : (n - 6 - 64) % 64 = 63
      · exact .inr (.inr (.inr (.inr (.inr ⟨trivial, ⟨by omega, by omega⟩, by omega, trivial, by omega, by omega⟩))))
      · exact .inr (.inr (.inr (.inr (.inl ⟨trivial, ⟨by omega, by omega⟩, ⟨by omega, by omega⟩, trivial, by omega, by omega⟩))))
    · by_cases g : (n - 6 - 128) % 128 = 127
      · exact .inr (.inr (.inr (.inr (.inr ⟨trivial, ⟨by omega, by omega⟩, by omega, trivial, by omega, by omega⟩))))
      · exact .inr (.inr (.inr (.inr (.inl ⟨trivial, ⟨by omega, by omega⟩, ⟨by omega, by omega⟩, trivial, by omega, by omega⟩))))
    · by_cases g : (n - 6 - 256) % 256 = 255
      · exact .inr (.inr (.inr (.inr (.inr ⟨trivial, ⟨by omega, by omega⟩, by omega, trivial, by omega, by omega⟩))))
      · exact .inr (.inr (.inr (.inr (.inl ⟨trivial, ⟨by omega, by omega⟩, ⟨by omega, by omega⟩, trivial, by omega, by omega⟩))))

theorem pgs_le {s : Int} (h : Sz s) : pgs s ≤ 65798 := by
  rcases h with rfl | rfl | rfl | rfl <;> decide

set_option maxRecDepth 100000 in
set_option maxHeartbeats 2000000 in
/-- no way for one of the two pages -/
theorem gaps_none (s n m : Int) (w : World) (h : toE s n ≠ 0 ∨ toE s m ≠ 0) :
    Calls Try.prog 8 #[.int .i64 s, .int .i64 n, .int .i64 m] w fun e w' => e = .returned (.bool true) ∧ Below w.heap.size w w' := by
  have C1 := Lib.hid (fun w => to_any s n w)
  have C2 := Lib.hid (fun w => to_any s m w)
  unfold wy at C1 C2
  generalize tl s n = a at C1
  generalize tf s n = b at C1
  generalize tc s n = c at C1
  generalize tl s m = a' at C2
  generalize tf s m = b' at C2
  generalize tc s m = c' at C2
  generalize toE s n = f at C1 h
  generalize toE s m = g at C2 h
  by_cases h1 : f = 0
  · have h2 : g ≠ 0 := h.resolve_left (by simp [h1])
    subst h1
    clear h
    go_enter Try.func8, Try.ntmps8
    go_wp2_with fail
    refine (C1.out _).mono ?_
    rintro e w1 ⟨rfl, hb1⟩
    have B0 : Hid (Below w.heap.size w (w1.alloc (.cells #[.int .i64 a, .int .i64 b, .int .i64 c] 41))) := Lib.hid (hb1.alloc hb1.size _)
    clear hb1
    go_wp2_with fail
    refine (C2.out _).mono ?_
    rintro e w2 ⟨rfl, hb2⟩
    have B1 := Lib.hid (B0.out.trans (hb2.mono B0.out.size))
    clear hb2 B0
    go_wp2_with fail
    refine (iknown_any _).mono ?_
    rintro e w' ⟨rfl, hb5⟩
    go_wp2
    go_ret
    exact ⟨rfl, (B1.out.alloc B1.out.size _).trans (hb5.mono (by have := B1.out.size; simp; omega))⟩
  · clear h
    go_enter Try.func8, Try.ntmps8
    go_wp2_with fail
    refine (C1.out _).mono ?_
    rintro e w1 ⟨rfl, hb1⟩
    have B0 : Hid (Below w.heap.size w (w1.alloc (.cells #[.int .i64 a, .int .i64 b, .int .i64 c] 41))) := Lib.hid (hb1.alloc hb1.size _)
    clear hb1
    go_wp2_with fail
    refine (C2.out _).mono ?_
    rintro e w2 ⟨rfl, hb2⟩
    have B1 := Lib.hid (B0.out.trans (hb2.mono B0.out.size))
    clear hb2 B0
    go_wp2_with fail
    refine (iknown_any _).mono ?_
    rintro e w' ⟨rfl, hb5⟩
    go_wp2
    go_ret
    exact ⟨rfl, (B1.out.alloc B1.out.size _).trans (hb5.mono (by have := B1.out.size; simp; omega))⟩

set_option maxRecDepth 100000 in
set_option maxHeartbeats 4000000 in
/-- the last page: none is next -/
theorem gaps_last (s n m a0 a1 a2 b0 b1 b2 : Int) (w : World) (hs0 : 64 ≤ s) (hs1 : s ≤ 512) (hn0 : 0 ≤ n) (hn1 : n ≤ 70000) (hp0 : 0 ≤ s / 2 * (s / 2)) (hp1 : s / 2 * (s / 2) ≤ 65536) (he : n + 1 = 6 + s / 2 + s / 2 * (s / 2)) (hd : Df n m a0 a1 a2 b0 b1 b2)
    (D1 : ∀ w, Calls Try.prog 31 #[.int .i64 s, .int .i64 n] w fun e w' => e = .returned (.tuple #[wy a0 a1 a2, .int .i64 0]) ∧ Below w.heap.size w w')
    (D2 : ∀ w, Calls Try.prog 31 #[.int .i64 s, .int .i64 m] w fun e w' => e = .returned (.tuple #[wy b0 b1 b2, .int .i64 0]) ∧ Below w.heap.size w w')
    (D3 : ∀ w, Calls Try.prog 31 #[.int .i64 s, .int .i64 (n + 1)] w fun e w' => e = .returned (.tuple #[wy 0 0 0, .int .i64 52]) ∧ Below w.heap.size w w') :
    Calls Try.prog 8 #[.int .i64 s, .int .i64 n, .int .i64 m] w fun e w' => e = .returned (.bool true) ∧ Below w.heap.size w w' := by
  have C1 := Lib.hid D1
  have C2 := Lib.hid D2
  have C3 := Lib.hid D3
  have E1 : ((n + 1 : Int) == 6 + s / 2 + s / 2 * (s / 2)) = true := by simpa using he
  clear D1 D2 D3 he
  unfold wy at C1 C2 C3
  rcases hd with ⟨rfl, rfl, rfl, rfl⟩ | ⟨hne, h0⟩ | ⟨hne, rfl, h1⟩ | ⟨hne, rfl, rfl, h2⟩
  all_goals
    go_enter Try.func8, Try.ntmps8
    go_wp2_with fail
    refine (C1.out _).mono ?_
    rintro e w1 ⟨rfl, hb1⟩
    have A0 := Lib.hid (Blk.new w1 41 #[.int .i64 a0, .int .i64 a1, .int .i64 a2])
    have B0 : Hid (Below w.heap.size w (w1.alloc (.cells #[.int .i64 a0, .int .i64 a1, .int .i64 a2] 41))) := Lib.hid (hb1.alloc hb1.size _)
    clear hb1
    go_wp2_with fail
    refine (C2.out _).mono ?_
    rintro e w2 ⟨rfl, hb2⟩
    have A1 := Lib.hid (A0.out.below hb2 (by simp))
    have B1 := Lib.hid (B0.out.trans (hb2.mono B0.out.size))
    have c0 := fun o => (three (A1.out.alloc o)).1
    have c1 := fun o => (three (A1.out.alloc o)).2.1
    have c2 := fun o => (three (A1.out.alloc o)).2.2
    have d0 := fun p q r => (three (Blk.new w2 41 #[.int .i64 p, .int .i64 q, .int .i64 r])).1
    have d1 := fun p q r => (three (Blk.new w2 41 #[.int .i64 p, .int .i64 q, .int .i64 r])).2.1
    have d2 := fun p q r => (three (Blk.new w2 41 #[.int .i64 p, .int .i64 q, .int .i64 r])).2.2
    clear hb2 A0 B0
    go_wp2_with fail
    refine (C3.out _).mono ?_
    rintro e w3 ⟨rfl, hb3⟩
    have B4 : Hid (Below w.heap.size w (w3.alloc (.cells #[.int .i64 0, .int .i64 0, .int .i64 0] 41))) := Lib.hid ((((B1.out.alloc B1.out.size _).trans (hb3.mono (by have := B1.out.size; simp; omega))).alloc (by have := B1.out.size; have := hb3.size; simp at this; omega) _))
    clear c0 c1 c2 d0 d1 d2
    clear hb3 A1 B1
    go_wp2_with fail
    refine (iknown_any _).mono ?_
    rintro e w' ⟨rfl, hb5⟩
    go_wp2
    go_ret
    exact ⟨rfl, B4.out.trans (hb5.mono B4.out.size)⟩

theorem inodeGaps_walk (s n m : Int) (w : World) (_w0 : (Lit.int .i64 s).wf = true) (_w1 : (Lit.int .i64 n).wf = true) (_w2 : (Lit.int .i64 m).wf = true) :
    Calls Try.prog 8 #[.int .i64 s, .int .i64 n, .int .i64 m] w fun e w' => e = .returned (.bool true) ∧ Below w.heap.size w w' := by
  by_cases h : toE s n ≠ 0 ∨ toE s m ≠ 0
  · exact gaps_none s n m w h
  · have hn : toE s n = 0 := by by_cases h1 : toE s n = 0; exact h1; exact absurd (.inl h1) h
    have hm : toE s m = 0 := by by_cases h1 : toE s m = 0; exact h1; exact absurd (.inr h1) h
    obtain ⟨hs, h0, h1⟩ := toE_iff.1 hn
    have D1 := to_any s n
    have D2 := to_any s m
    have D3 := to_any s (n + 1)
    rw [hn, (way_ok hn).1, (way_ok hn).2.1, (way_ok hn).2.2] at D1
    rw [hm, (way_ok hm).1, (way_ok hm).2.1, (way_ok hm).2.2] at D2
    have hd := way_df (n := n) (m := m) hs
    have hb : 64 ≤ s ∧ s ≤ 512 := by unfold Sz at hs; omega
    have hl := pgs_le hs
    by_cases hx : n + 1 < pgs s
    · have h3 : toE s (n + 1) = 0 := toE_iff.2 ⟨hs, by omega, hx⟩
      rw [h3, (way_ok h3).1, (way_ok h3).2.1, (way_ok h3).2.2] at D3
      have hN := way_next hs h0 hx
      generalize lv s n = a0 at *
      generalize fi s n = a1 at *
      generalize se s n = a2 at *
      generalize lv s m = b0 at *
      generalize fi s m = b1 at *
      generalize se s m = b2 at *
      generalize lv s (n + 1) = c0 at *
      generalize fi s (n + 1) = c1 at *
      generalize se s (n + 1) = c2 at *
      rcases hN with ⟨rfl, hx, rfl, rfl, rfl, rfl⟩ | ⟨rfl, rfl, rfl, rfl, rfl, rfl⟩ | ⟨rfl, hx, rfl, rfl, rfl, rfl⟩ | ⟨rfl, rfl, rfl, rfl, rfl, rfl⟩ | ⟨rfl, hx, hy, rfl, rfl, rfl⟩ | ⟨rfl, hx, rfl, rfl, rfl, rfl⟩
      · exact gaps_1 s n m _ b0 b1 b2 w hb.1 hb.2 h0 (by omega) hx.1 hx.2 hd D1 D2 D3
      · exact gaps_2 s n m b0 b1 b2 w hb.1 hb.2 h0 (by omega) hd D1 D2 D3
      · exact gaps_3 s n m _ b0 b1 b2 w hb.1 hb.2 h0 (by omega) hx.1 hx.2 hd D1 D2 D3
      · exact gaps_4 s n m b0 b1 b2 w hb.1 hb.2 h0 (by omega) hd D1 D2 D3
      · exact gaps_5 s n m _ _ b0 b1 b2 w hb.1 hb.2 h0 (by omega) hx.1 hx.2 hy.1 hy.2 hd D1 D2 D3
      · exact gaps_6 s n m _ b0 b1 b2 w hb.1 hb.2 h0 (by omega) hx.1 hx.2 hd D1 D2 D3
    · have he : n + 1 = pgs s := by omega
      have h3 : toE s (n + 1) = 52 := toE_index hs (.inr (by omega))
      have hz : tl s (n + 1) = 0 ∧ tf s (n + 1) = 0 ∧ tc s (n + 1) = 0 := by unfold tl tf tc; rw [h3]; exact ⟨rfl, rfl, rfl⟩
      rw [h3, hz.1, hz.2.1, hz.2.2] at D3
      have hq : 0 ≤ s / 2 * (s / 2) ∧ s / 2 * (s / 2) ≤ 65536 := by rcases hs with rfl | rfl | rfl | rfl <;> decide
      exact gaps_last s n m _ _ _ _ _ _ w hb.1 hb.2 h0 (by omega) hq.1 hq.2 (by rw [he]; rfl) hd D1 D2 D3

end Go.Proofs.Ytolahkfjlifnoaa
