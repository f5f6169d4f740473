/-
  The statement that ways go on without a gap: one walk for each of the six ways in which a way goes on to the next.
-/
import Derived.Test.YtolahkfjlifnoaaInoKnown
namespace Go.Proofs.Ytolahkfjlifnoaa
open Go.RowKit Crcm Tagm Inom Go.ChangeShapes

/-- two ways differ at the first of three numbers, or at the second, or at the third; or they are one -/
def Df (n m a0 a1 a2 b0 b1 b2 : Int) : Prop := (n = m ∧ a0 = b0 ∧ a1 = b1 ∧ a2 = b2) ∨ (n ≠ m ∧ a0 ≠ b0) ∨ (n ≠ m ∧ a0 = b0 ∧ a1 ≠ b1) ∨ (n ≠ m ∧ a0 = b0 ∧ a1 = b1 ∧ a2 ≠ b2)

theorem three {w : World} {g : Nat} {t : TypeId} {a b c : Int} (h : Blk w g t #[.int .i64 a, .int .i64 b, .int .i64 c]) :
    w.cell? ⟨g, 0, none⟩ = some (.int .i64 a) ∧ w.cell? ⟨g, 1, none⟩ = some (.int .i64 b) ∧ w.cell? ⟨g, 2, none⟩ = some (.int .i64 c) := ⟨h.cell 0, h.cell 1, h.cell 2⟩

set_option maxRecDepth 100000 in
set_option maxHeartbeats 8000000 in
theorem gaps_1 (s n m : Int) (x : Int) (b0 b1 b2 : Int) (w : World) (hs0 : 64 ≤ s) (hs1 : s ≤ 512) (hn0 : 0 ≤ n) (hn1 : n ≤ 70000) (hx0 : 0 ≤ x) (hx1 : x ≤ 4) (hd : Df n m 0 x 0 b0 b1 b2)
    (D1 : ∀ w, Calls Try.prog 31 #[.int .i64 s, .int .i64 n] w fun e w' => e = .returned (.tuple #[wy 0 x 0, .int .i64 0]) ∧ Below w.heap.size w w')
    (D2 : ∀ w, Calls Try.prog 31 #[.int .i64 s, .int .i64 m] w fun e w' => e = .returned (.tuple #[wy b0 b1 b2, .int .i64 0]) ∧ Below w.heap.size w w')
    (D3 : ∀ w, Calls Try.prog 31 #[.int .i64 s, .int .i64 (n + 1)] w fun e w' => e = .returned (.tuple #[wy 0 (x + 1) 0, .int .i64 0]) ∧ Below w.heap.size w w') :
    Calls Try.prog 8 #[.int .i64 s, .int .i64 n, .int .i64 m] w fun e w' => e = .returned (.bool true) ∧ Below w.heap.size w w' := by
  have C1 := Lib.hid D1
  have C2 := Lib.hid D2
  have C3 := Lib.hid D3
  clear D1 D2 D3
  unfold wy at C1 C2 C3
  rcases hd with ⟨rfl, rfl, rfl, rfl⟩ | ⟨hne, h0⟩ | ⟨hne, rfl, h1⟩ | ⟨hne, rfl, rfl, h2⟩
  all_goals
    go_enter Try.func8, Try.ntmps8
    go_wp2_with fail
    refine (C1.out _).mono ?_
    rintro e w1 ⟨rfl, hb1⟩
    have A0 := Lib.hid (Blk.new w1 41 #[.int .i64 0, .int .i64 x, .int .i64 0])
    have B0 : Hid (Below w.heap.size w (w1.alloc (.cells #[.int .i64 0, .int .i64 x, .int .i64 0] 41))) := Lib.hid (hb1.alloc hb1.size _)
    clear hb1
    go_wp2_with fail
    refine (C2.out _).mono ?_
    rintro e w2 ⟨rfl, hb2⟩
    have A1 := Lib.hid (A0.out.below hb2 (by simp))
    have B1 := Lib.hid (B0.out.trans (hb2.mono B0.out.size))
    have c0 := fun o => (three (A1.out.alloc o)).1
    have c1 := fun o => (three (A1.out.alloc o)).2.1
    have c2 := fun o => (three (A1.out.alloc o)).2.2
    have d0 := fun p q r => (three (Blk.new w2 41 #[.int .i64 p, .int .i64 q, .int .i64 r])).1
    have d1 := fun p q r => (three (Blk.new w2 41 #[.int .i64 p, .int .i64 q, .int .i64 r])).2.1
    have d2 := fun p q r => (three (Blk.new w2 41 #[.int .i64 p, .int .i64 q, .int .i64 r])).2.2
    clear hb2 A0 B0
    go_wp2_with fail
    refine (C3.out _).mono ?_
    rintro e w3 ⟨rfl, hb3⟩
    have A3 := (A1.out.alloc _).below hb3 (A1.out.alloc _).lt
    have A4 := (A3.alloc (.cells #[.int .i64 0, .int .i64 (x + 1), .int .i64 0] 41))
    have B4 : Hid (Below w.heap.size w (w3.alloc (.cells #[.int .i64 0, .int .i64 (x + 1), .int .i64 0] 41))) := Lib.hid ((((B1.out.alloc B1.out.size _).trans (hb3.mono (by have := B1.out.size; simp; omega))).alloc (by have := B1.out.size; have := hb3.size; simp at this; omega) _))
    clear c0 c1 c2 d0 d1 d2
    obtain ⟨c0, c1, c2⟩ := three A4
    obtain ⟨d0, d1, d2⟩ := three (Blk.new w3 41 #[.int .i64 0, .int .i64 (x + 1), .int .i64 0])
    clear hb3 A1 B1 A3 A4
    go_wp2_with fail
    refine (iknown_any _).mono ?_
    rintro e w' ⟨rfl, hb5⟩
    go_wp2
    go_ret
    exact ⟨rfl, B4.out.trans (hb5.mono B4.out.size)⟩

set_option maxRecDepth 100000 in
set_option maxHeartbeats 8000000 in
theorem gaps_2 (s n m : Int) (b0 b1 b2 : Int) (w : World) (hs0 : 64 ≤ s) (hs1 : s ≤ 512) (hn0 : 0 ≤ n) (hn1 : n ≤ 70000)  (hd : Df n m 0 5 0 b0 b1 b2)
    (D1 : ∀ w, Calls Try.prog 31 #[.int .i64 s, .int .i64 n] w fun e w' => e = .returned (.tuple #[wy 0 5 0, .int .i64 0]) ∧ Below w.heap.size w w')
    (D2 : ∀ w, Calls Try.prog 31 #[.int .i64 s, .int .i64 m] w fun e w' => e = .returned (.tuple #[wy b0 b1 b2, .int .i64 0]) ∧ Below w.heap.size w w')
    (D3 : ∀ w, Calls Try.prog 31 #[.int .i64 s, .int .i64 (n + 1)] w fun e w' => e = .returned (.tuple #[wy 1 0 0, .int .i64 0]) ∧ Below w.heap.size w w') :
    Calls Try.prog 8 #[.int .i64 s, .int .i64 n, .int .i64 m] w fun e w' => e = .returned (.bool true) ∧ Below w.heap.size w w' := by
  have C1 := Lib.hid D1
  have C2 := Lib.hid D2
  have C3 := Lib.hid D3
  clear D1 D2 D3
  unfold wy at C1 C2 C3
  rcases hd with ⟨rfl, rfl, rfl, rfl⟩ | ⟨hne, h0⟩ | ⟨hne, rfl, h1⟩ | ⟨hne, rfl, rfl, h2⟩
  all_goals
    go_enter Try.func8, Try.ntmps8
    go_wp2_with fail
    refine (C1.out _).mono ?_
    rintro e w1 ⟨rfl, hb1⟩
    have A0 := Lib.hid (Blk.new w1 41 #[.int .i64 0, .int .i64 5, .int .i64 0])
    have B0 : Hid (Below w.heap.size w (w1.alloc (.cells #[.int .i64 0, .int .i64 5, .int .i64 0] 41))) := Lib.hid (hb1.alloc hb1.size _)
    clear hb1
    go_wp2_with fail
    refine (C2.out _).mono ?_
    rintro e w2 ⟨rfl, hb2⟩
    have A1 := Lib.hid (A0.out.below hb2 (by simp))
    have B1 := Lib.hid (B0.out.trans (hb2.mono B0.out.size))
    have c0 := fun o => (three (A1.out.alloc o)).1
    have c1 := fun o => (three (A1.out.alloc o)).2.1
    have c2 := fun o => (three (A1.out.alloc o)).2.2
    have d0 := fun p q r => (three (Blk.new w2 41 #[.int .i64 p, .int .i64 q, .int .i64 r])).1
    have d1 := fun p q r => (three (Blk.new w2 41 #[.int .i64 p, .int .i64 q, .int .i64 r])).2.1
    have d2 := fun p q r => (three (Blk.new w2 41 #[.int .i64 p, .int .i64 q, .int .i64 r])).2.2
    clear hb2 A0 B0
    go_wp2_with fail
    refine (C3.out _).mono ?_
    rintro e w3 ⟨rfl, hb3⟩
    have A3 := (A1.out.alloc _).below hb3 (A1.out.alloc _).lt
    have A4 := (A3.alloc (.cells #[.int .i64 1, .int .i64 0, .int .i64 0] 41))
    have B4 : Hid (Below w.heap.size w (w3.alloc (.cells #[.int .i64 1, .int .i64 0, .int .i64 0] 41))) := Lib.hid ((((B1.out.alloc B1.out.size _).trans (hb3.mono (by have := B1.out.size; simp; omega))).alloc (by have := B1.out.size; have := hb3.size; simp at this; omega) _))
    clear c0 c1 c2 d0 d1 d2
    obtain ⟨c0, c1, c2⟩ := three A4
    obtain ⟨d0, d1, d2⟩ := three (Blk.new w3 41 #[.int .i64 1, .int .i64 0, .int .i64 0])
    clear hb3 A1 B1 A3 A4
    go_wp2_with fail
    refine (iknown_any _).mono ?_
    rintro e w' ⟨rfl, hb5⟩
    go_wp2
    go_ret
    exact ⟨rfl, B4.out.trans (hb5.mono B4.out.size)⟩

set_option maxRecDepth 100000 in
set_option maxHeartbeats 8000000 in
theorem gaps_3 (s n m : Int) (x : Int) (b0 b1 b2 : Int) (w : World) (hs0 : 64 ≤ s) (hs1 : s ≤ 512) (hn0 : 0 ≤ n) (hn1 : n ≤ 70000) (hx0 : 0 ≤ x) (hx1 : x ≤ 300) (hd : Df n m 1 x 0 b0 b1 b2)
    (D1 : ∀ w, Calls Try.prog 31 #[.int .i64 s, .int .i64 n] w fun e w' => e = .returned (.tuple #[wy 1 x 0, .int .i64 0]) ∧ Below w.heap.size w w')
    (D2 : ∀ w, Calls Try.prog 31 #[.int .i64 s, .int .i64 m] w fun e w' => e = .returned (.tuple #[wy b0 b1 b2, .int .i64 0]) ∧ Below w.heap.size w w')
    (D3 : ∀ w, Calls Try.prog 31 #[.int .i64 s, .int .i64 (n + 1)] w fun e w' => e = .returned (.tuple #[wy 1 (x + 1) 0, .int .i64 0]) ∧ Below w.heap.size w w') :
    Calls Try.prog 8 #[.int .i64 s, .int .i64 n, .int .i64 m] w fun e w' => e = .returned (.bool true) ∧ Below w.heap.size w w' := by
  have C1 := Lib.hid D1
  have C2 := Lib.hid D2
  have C3 := Lib.hid D3
  clear D1 D2 D3
  unfold wy at C1 C2 C3
  rcases hd with ⟨rfl, rfl, rfl, rfl⟩ | ⟨hne, h0⟩ | ⟨hne, rfl, h1⟩ | ⟨hne, rfl, rfl, h2⟩
  all_goals
    go_enter Try.func8, Try.ntmps8
    go_wp2_with fail
    refine (C1.out _).mono ?_
    rintro e w1 ⟨rfl, hb1⟩
    have A0 := Lib.hid (Blk.new w1 41 #[.int .i64 1, .int .i64 x, .int .i64 0])
    have B0 : Hid (Below w.heap.size w (w1.alloc (.cells #[.int .i64 1, .int .i64 x, .int .i64 0] 41))) := Lib.hid (hb1.alloc hb1.size _)
    clear hb1
    go_wp2_with fail
    refine (C2.out _).mono ?_
    rintro e w2 ⟨rfl, hb2⟩
    have A1 := Lib.hid (A0.out.below hb2 (by simp))
    have B1 := Lib.hid (B0.out.trans (hb2.mono B0.out.size))
    have c0 := fun o => (three (A1.out.alloc o)).1
    have c1 := fun o => (three (A1.out.alloc o)).2.1
    have c2 := fun o => (three (A1.out.alloc o)).2.2
    have d0 := fun p q r => (three (Blk.new w2 41 #[.int .i64 p, .int .i64 q, .int .i64 r])).1
    have d1 := fun p q r => (three (Blk.new w2 41 #[.int .i64 p, .int .i64 q, .int .i64 r])).2.1
    have d2 := fun p q r => (three (Blk.new w2 41 #[.int .i64 p, .int .i64 q, .int .i64 r])).2.2
    clear hb2 A0 B0
    go_wp2_with fail
    refine (C3.out _).mono ?_
    rintro e w3 ⟨rfl, hb3⟩
    have A3 := (A1.out.alloc _).below hb3 (A1.out.alloc _).lt
    have A4 := (A3.alloc (.cells #[.int .i64 1, .int .i64 (x + 1), .int .i64 0] 41))
    have B4 : Hid (Below w.heap.size w (w3.alloc (.cells #[.int .i64 1, .int .i64 (x + 1), .int .i64 0] 41))) := Lib.hid ((((B1.out.alloc B1.out.size _).trans (hb3.mono (by have := B1.out.size; simp; omega))).alloc (by have := B1.out.size; have := hb3.size; simp at this; omega) _))
    clear c0 c1 c2 d0 d1 d2
    obtain ⟨c0, c1, c2⟩ := three A4
    obtain ⟨d0, d1, d2⟩ := three (Blk.new w3 41 #[.int .i64 1, .int .i64 (x + 1), .int .i64 0])
    clear hb3 A1 B1 A3 A4
    go_wp2_with fail
    refine (iknown_any _).mono ?_
    rintro e w' ⟨rfl, hb5⟩
    go_wp2
    go_ret
    exact ⟨rfl, B4.out.trans (hb5.mono B4.out.size)⟩

set_option maxRecDepth 100000 in
set_option maxHeartbeats 8000000 in
theorem gaps_4 (s n m : Int) (b0 b1 b2 : Int) (w : World) (hs0 : 64 ≤ s) (hs1 : s ≤ 512) (hn0 : 0 ≤ n) (hn1 : n ≤ 70000)  (hd : Df n m 1 (s / 2 - 1) 0 b0 b1 b2)
    (D1 : ∀ w, Calls Try.prog 31 #[.int .i64 s, .int .i64 n] w fun e w' => e = .returned (.tuple #[wy 1 (s / 2 - 1) 0, .int .i64 0]) ∧ Below w.heap.size w w')
    (D2 : ∀ w, Calls Try.prog 31 #[.int .i64 s, .int .i64 m] w fun e w' => e = .returned (.tuple #[wy b0 b1 b2, .int .i64 0]) ∧ Below w.heap.size w w')
    (D3 : ∀ w, Calls Try.prog 31 #[.int .i64 s, .int .i64 (n + 1)] w fun e w' => e = .returned (.tuple #[wy 2 0 0, .int .i64 0]) ∧ Below w.heap.size w w') :
    Calls Try.prog 8 #[.int .i64 s, .int .i64 n, .int .i64 m] w fun e w' => e = .returned (.bool true) ∧ Below w.heap.size w w' := by
  have C1 := Lib.hid D1
  have C2 := Lib.hid D2
  have C3 := Lib.hid D3
  clear D1 D2 D3
  unfold wy at C1 C2 C3
  rcases hd with ⟨rfl, rfl, rfl, rfl⟩ | ⟨hne, h0⟩ | ⟨hne, rfl, h1⟩ | ⟨hne, rfl, rfl, h2⟩
  all_goals
    go_enter Try.func8, Try.ntmps8
    go_wp2_with fail
    refine (C1.out _).mono ?_
    rintro e w1 ⟨rfl, hb1⟩
    have A0 := Lib.hid (Blk.new w1 41 #[.int .i64 1, .int .i64 (s / 2 - 1), .int .i64 0])
    have B0 : Hid (Below w.heap.size w (w1.alloc (.cells #[.int .i64 1, .int .i64 (s / 2 - 1), .int .i64 0] 41))) := Lib.hid (hb1.alloc hb1.size _)
    clear hb1
    go_wp2_with fail
    refine (C2.out _).mono ?_
    rintro e w2 ⟨rfl, hb2⟩
    have A1 := Lib.hid (A0.out.below hb2 (by simp))
    have B1 := Lib.hid (B0.out.trans (hb2.mono B0.out.size))
    have c0 := fun o => (three (A1.out.alloc o)).1
    have c1 := fun o => (three (A1.out.alloc o)).2.1
    have c2 := fun o => (three (A1.out.alloc o)).2.2
    have d0 := fun p q r => (three (Blk.new w2 41 #[.int .i64 p, .int .i64 q, .int .i64 r])).1
    have d1 := fun p q r => (three (Blk.new w2 41 #[.int .i64 p, .int .i64 q, .int .i64 r])).2.1
    have d2 := fun p q r => (three (Blk.new w2 41 #[.int .i64 p, .int .i64 q, .int .i64 r])).2.2
    clear hb2 A0 B0
    go_wp2_with fail
    refine (C3.out _).mono ?_
    rintro e w3 ⟨rfl, hb3⟩
    have A3 := (A1.out.alloc _).below hb3 (A1.out.alloc _).lt
    have A4 := (A3.alloc (.cells #[.int .i64 2, .int .i64 0, .int .i64 0] 41))
    have B4 : Hid (Below w.heap.size w (w3.alloc (.cells #[.int .i64 2, .int .i64 0, .int .i64 0] 41))) := Lib.hid ((((B1.out.alloc B1.out.size _).trans (hb3.mono (by have := B1.out.size; simp; omega))).alloc (by have := B1.out.size; have := hb3.size; simp at this; omega) _))
    clear c0 c1 c2 d0 d1 d2
    obtain ⟨c0, c1, c2⟩ := three A4
    obtain ⟨d0, d1, d2⟩ := three (Blk.new w3 41 #[.int .i64 2, .int .i64 0, .int .i64 0])
    clear hb3 A1 B1 A3 A4
    go_wp2_with fail
    refine (iknown_any _).mono ?_
    rintro e w' ⟨rfl, hb5⟩
    go_wp2
    go_ret
    exact ⟨rfl, B4.out.trans (hb5.mono B4.out.size)⟩

set_option maxRecDepth 100000 in
set_option maxHeartbeats 8000000 in
theorem gaps_5 (s n m : Int) (x y : Int) (b0 b1 b2 : Int) (w : World) (hs0 : 64 ≤ s) (hs1 : s ≤ 512) (hn0 : 0 ≤ n) (hn1 : n ≤ 70000) (_hx0 : 0 ≤ x) (_hx1 : x ≤ 300) (hy0 : 0 ≤ y) (hy1 : y ≤ 300) (hd : Df n m 2 x y b0 b1 b2)
    (D1 : ∀ w, Calls Try.prog 31 #[.int .i64 s, .int .i64 n] w fun e w' => e = .returned (.tuple #[wy 2 x y, .int .i64 0]) ∧ Below w.heap.size w w')
    (D2 : ∀ w, Calls Try.prog 31 #[.int .i64 s, .int .i64 m] w fun e w' => e = .returned (.tuple #[wy b0 b1 b2, .int .i64 0]) ∧ Below w.heap.size w w')
    (D3 : ∀ w, Calls Try.prog 31 #[.int .i64 s, .int .i64 (n + 1)] w fun e w' => e = .returned (.tuple #[wy 2 x (y + 1), .int .i64 0]) ∧ Below w.heap.size w w') :
    Calls Try.prog 8 #[.int .i64 s, .int .i64 n, .int .i64 m] w fun e w' => e = .returned (.bool true) ∧ Below w.heap.size w w' := by
  have C1 := Lib.hid D1
  have C2 := Lib.hid D2
  have C3 := Lib.hid D3
  clear D1 D2 D3
  unfold wy at C1 C2 C3
  rcases hd with ⟨rfl, rfl, rfl, rfl⟩ | ⟨hne, h0⟩ | ⟨hne, rfl, h1⟩ | ⟨hne, rfl, rfl, h2⟩
  all_goals
    go_enter Try.func8, Try.ntmps8
    go_wp2_with fail
    refine (C1.out _).mono ?_
    rintro e w1 ⟨rfl, hb1⟩
    have A0 := Lib.hid (Blk.new w1 41 #[.int .i64 2, .int .i64 x, .int .i64 y])
    have B0 : Hid (Below w.heap.size w (w1.alloc (.cells #[.int .i64 2, .int .i64 x, .int .i64 y] 41))) := Lib.hid (hb1.alloc hb1.size _)
    clear hb1
    go_wp2_with fail
    refine (C2.out _).mono ?_
    rintro e w2 ⟨rfl, hb2⟩
    have A1 := Lib.hid (A0.out.below hb2 (by simp))
    have B1 := Lib.hid (B0.out.trans (hb2.mono B0.out.size))
    have c0 := fun o => (three (A1.out.alloc o)).1
    have c1 := fun o => (three (A1.out.alloc o)).2.1
    have c2 := fun o => (three (A1.out.alloc o)).2.2
    have d0 := fun p q r => (three (Blk.new w2 41 #[.int .i64 p, .int .i64 q, .int .i64 r])).1
    have d1 := fun p q r => (three (Blk.new w2 41 #[.int .i64 p, .int .i64 q, .int .i64 r])).2.1
    have d2 := fun p q r => (three (Blk.new w2 41 #[.int .i64 p, .int .i64 q, .int .i64 r])).2.2
    clear hb2 A0 B0
    go_wp2_with fail
    refine (C3.out _).mono ?_
    rintro e w3 ⟨rfl, hb3⟩
    have A3 := (A1.out.alloc _).below hb3 (A1.out.alloc _).lt
    have A4 := (A3.alloc (.cells #[.int .i64 2, .int .i64 x, .int .i64 (y + 1)] 41))
    have B4 : Hid (Below w.heap.size w (w3.alloc (.cells #[.int .i64 2, .int .i64 x, .int .i64 (y + 1)] 41))) := Lib.hid ((((B1.out.alloc B1.out.size _).trans (hb3.mono (by have := B1.out.size; simp; omega))).alloc (by have := B1.out.size; have := hb3.size; simp at this; omega) _))
    clear c0 c1 c2 d0 d1 d2
    obtain ⟨c0, c1, c2⟩ := three A4
    obtain ⟨d0, d1, d2⟩ := three (Blk.new w3 41 #[.int .i64 2, .int .i64 x, .int .i64 (y + 1)])
    clear hb3 A1 B1 A3 A4
    go_wp2_with fail
    refine (iknown_any _).mono ?_
    rintro e w' ⟨rfl, hb5⟩
    go_wp2
    go_ret
    exact ⟨rfl, B4.out.trans (hb5.mono B4.out.size)⟩

set_option maxRecDepth 100000 in
set_option maxHeartbeats 8000000 in
theorem gaps_6 (s n m : Int) (x : Int) (b0 b1 b2 : Int) (w : World) (hs0 : 64 ≤ s) (hs1 : s ≤ 512) (hn0 : 0 ≤ n) (hn1 : n ≤ 70000) (hx0 : 0 ≤ x) (hx1 : x ≤ 300) (hd : Df n m 2 x (s / 2 - 1) b0 b1 b2)
    (D1 : ∀ w, Calls Try.prog 31 #[.int .i64 s, .int .i64 n] w fun e w' => e = .returned (.tuple #[wy 2 x (s / 2 - 1), .int .i64 0]) ∧ Below w.heap.size w w')
    (D2 : ∀ w, Calls Try.prog 31 #[.int .i64 s, .int .i64 m] w fun e w' => e = .returned (.tuple #[wy b0 b1 b2, .int .i64 0]) ∧ Below w.heap.size w w')
    (D3 : ∀ w, Calls Try.prog 31 #[.int .i64 s, .int .i64 (n + 1)] w fun e w' => e = .returned (.tuple #[wy 2 (x + 1) 0, .int .i64 0]) ∧ Below w.heap.size w w') :
    Calls Try.prog 8 #[.int .i64 s, .int .i64 n, .int .i64 m] w fun e w' => e = .returned (.bool true) ∧ Below w.heap.size w w' := by
  have C1 := Lib.hid D1
  have C2 := Lib.hid D2
  have C3 := Lib.hid D3
  clear D1 D2 D3
  unfold wy at C1 C2 C3
  rcases hd with ⟨rfl, rfl, rfl, rfl⟩ | ⟨hne, h0⟩ | ⟨hne, rfl, h1⟩ | ⟨hne, rfl, rfl, h2⟩
  all_goals
    go_enter Try.func8, Try.ntmps8
    go_wp2_with fail
    refine (C1.out _).mono ?_
    rintro e w1 ⟨rfl, hb1⟩
    have A0 := Lib.hid (Blk.new w1 41 #[.int .i64 2, .int .i64 x, .int .i64 (s / 2 - 1)])
    have B0 : Hid (Below w.heap.size w (w1.alloc (.cells #[.int .i64 2, .int .i64 x, .int .i64 (s / 2 - 1)] 41))) := Lib.hid (hb1.alloc hb1.size _)
    clear hb1
    go_wp2_with fail
    refine (C2.out _).mono ?_
    rintro e w2 ⟨rfl, hb2⟩
    have A1 := Lib.hid (A0.out.below hb2 (by simp))
    have B1 := Lib.hid (B0.out.trans (hb2.mono B0.out.size))
    have c0 := fun o => (three (A1.out.alloc o)).1
    have c1 := fun o => (three (A1.out.alloc o)).2.1
    have c2 := fun o => (three (A1.out.alloc o)).2.2
    have d0 := fun p q r => (three (Blk.new w2 41 #[.int .i64 p, .int .i64 q, .int .i64 r])).1
    have d1 := fun p q r => (three (Blk.new w2 41 #[.int .i64 p, .int .i64 q, .int .i64 r])).2.1
    have d2 := fun p q r => (three (Blk.new w2 41 #[.int .i64 p, .int .i64 q, .int .i64 r])).2.2
    clear hb2 A0 B0
    go_wp2_with fail
    refine (C3.out _).mono ?_
    rintro e w3 ⟨rfl, hb3⟩
    have A3 := (A1.out.alloc _).below hb3 (A1.out.alloc _).lt
    have A4 := (A3.alloc (.cells #[.int .i64 2, .int .i64 (x + 1), .int .i64 0] 41))
    have B4 : Hid (Below w.heap.size w (w3.alloc (.cells #[.int .i64 2, .int .i64 (x + 1), .int .i64 0] 41))) := Lib.hid ((((B1.out.alloc B1.out.size _).trans (hb3.mono (by have := B1.out.size; simp; omega))).alloc (by have := B1.out.size; have := hb3.size; simp at this; omega) _))
    clear c0 c1 c2 d0 d1 d2
    obtain ⟨c0, c1, c2⟩ := three A4
    obtain ⟨d0, d1, d2⟩ := three (Blk.new w3 41 #[.int .i64 2, .int .i64 (x + 1), .int .i64 0])
    clear hb3 A1 B1 A3 A4
    go_wp2_with fail
    refine (iknown_any _).mono ?_
    rintro e w' ⟨rfl, hb5⟩
    go_wp2
    go_ret
    exact ⟨rfl, B4.out.trans (hb5.mono B4.out.size)⟩

end Go.Proofs.Ytolahkfjlifnoaa
