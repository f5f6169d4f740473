/-
  The document's chip in memory: Right and New; the program's New of a geometry that is none.
-/
import Derived.Test.YtiaaeiefgnoiaaaRefNew
import Derived.Test.YtiaaeiefgnoiaaaNandOps
import Derived.BigQuiet
import Derived.Deep.QuietTactic
namespace Go.Proofs.Ytiaaeiefgnoiaaa
open Go.RowKit Crcm Go.ChangeShapes

set_option maxRecDepth 100000 in
set_option maxHeartbeats 1000000 in
theorem rright_yes {a b s : Int} (h : GdI a b s) (w : World) : Calls Try.prog 34 #[geoV a b s] w fun e w' => e = .returned (.bool true) ∧ Below w.heap.size w w' := by
  unfold geoV
  obtain ⟨h1, h2, h3, h4, h5⟩ := h
  have t1 : decide ((7 : Int) < a) = true := decide_eq_true (by omega)
  have t2 : decide (a < (129 : Int)) = true := decide_eq_true (by omega)
  have t3 : decide ((3 : Int) < b) = true := decide_eq_true (by omega)
  have t4 : decide (b < (33 : Int)) = true := decide_eq_true (by omega)
  clear h1 h2 h3 h4
  rcases h5 with rfl | rfl | rfl | rfl
  all_goals
    go_enter Try.func34, Try.ntmps34
    go_wp2
    go_ret
    exact ⟨rfl, (Below.refl _ _).alloc (Nat.le_refl _) _⟩
set_option maxRecDepth 100000 in
set_option maxHeartbeats 1000000 in
theorem rright_no {a b s : Int} (h : ¬ GdI a b s) (w : World) : Calls Try.prog 34 #[geoV a b s] w fun e w' => e = .returned (.bool false) ∧ Below w.heap.size w w' := by
  unfold geoV
  by_cases h5 : s = 64 ∨ s = 128 ∨ s = 256 ∨ s = 512
  · by_cases h1 : 8 ≤ a
    · have t1 : decide ((7 : Int) < a) = true := decide_eq_true (by omega)
      by_cases h2 : a ≤ 128
      · have t2 : decide (a < (129 : Int)) = true := decide_eq_true (by omega)
        by_cases h3 : 4 ≤ b
        · have t3 : decide ((3 : Int) < b) = true := decide_eq_true (by omega)
          have t4 : decide (b < (33 : Int)) = false := decide_eq_false fun h4 => h ⟨h1, h2, h3, by omega, h5⟩
          clear h1 h2 h3 h
          rcases h5 with rfl | rfl | rfl | rfl
          all_goals
            go_enter Try.func34, Try.ntmps34
            go_wp2
            go_ret
            exact ⟨rfl, (Below.refl _ _).alloc (Nat.le_refl _) _⟩
        · have t3 : decide ((3 : Int) < b) = false := decide_eq_false (by omega)
          clear h1 h2 h3 h
          rcases h5 with rfl | rfl | rfl | rfl
          all_goals
            go_enter Try.func34, Try.ntmps34
            go_wp2
            go_ret
            exact ⟨rfl, (Below.refl _ _).alloc (Nat.le_refl _) _⟩
      · have t2 : decide (a < (129 : Int)) = false := decide_eq_false (by omega)
        clear h1 h2 h
        rcases h5 with rfl | rfl | rfl | rfl
        all_goals
          go_enter Try.func34, Try.ntmps34
          go_wp2
          go_ret
          exact ⟨rfl, (Below.refl _ _).alloc (Nat.le_refl _) _⟩
    · have t1 : decide ((7 : Int) < a) = false := decide_eq_false (by omega)
      clear h1 h
      rcases h5 with rfl | rfl | rfl | rfl
      all_goals
        go_enter Try.func34, Try.ntmps34
        go_wp2
        go_ret
        exact ⟨rfl, (Below.refl _ _).alloc (Nat.le_refl _) _⟩
  · have t1 : (s == 64) = false := beq_eq_false_iff_ne.2 (by omega)
    have t2 : (s == 128) = false := beq_eq_false_iff_ne.2 (by omega)
    have t3 : (s == 256) = false := beq_eq_false_iff_ne.2 (by omega)
    have t4 : (s == 512) = false := beq_eq_false_iff_ne.2 (by omega)
    clear h5 h
    go_enter Try.func34, Try.ntmps34
    go_wp2
    all_goals
      go_ret
      exact ⟨rfl, (Below.refl _ _).alloc (Nat.le_refl _) _⟩
theorem below_drewN {w0 w : World} {B : Nat} (h : Below B w0 w) (q : Nat) : Below B w0 (w.drewN q) := ⟨h.os, h.tape, h.output, h.size, h.block⟩
set_option maxRecDepth 100000 in
set_option maxHeartbeats 1000000 in
theorem gnew_no {x y z : Int} (h : ¬ GdI x y z) (v : Value) (w : World) :
    Calls Try.prog 30 #[geoV x y z, v] w fun e w' => e = .returned (.tuple #[.pointer none, .int .i64 1]) ∧ Below w.heap.size w w' := by
  have HR := Lib.hid (fun W => gright_no h W)
  unfold geoV at HR ⊢
  clear h
  go_enter Try.func30, Try.ntmps30
  go_wp2_with fail
  refine (HR.out _).mono ?_
  rintro r w1 ⟨rfl, hb⟩
  have HB := Lib.hid (((Below.refl w.heap.size w).alloc (Nat.le_refl _) (.cells #[.int .i64 x, .int .i64 y, .int .i64 z] 23)).trans (hb.mono (by simp)))
  clear hb
  go_wp2
  go_ret2
  exact ⟨rfl, HB.out⟩
set_option maxRecDepth 100000 in
set_option maxHeartbeats 1000000 in
theorem rnew_no {x y z : Int} (h : ¬ GdI x y z) (v : Value) (w : World) :
    Calls Try.prog 18 #[geoV x y z, v] w fun e w' => e = .returned (.tuple #[.pointer none, .int .i64 1]) ∧ Below w.heap.size w w' := by
  have HR := Lib.hid (fun W => rright_no h W)
  unfold geoV at HR ⊢
  clear h
  go_enter Try.func18, Try.ntmps18
  go_wp2_with fail
  refine (HR.out _).mono ?_
  rintro r w1 ⟨rfl, hb⟩
  have HB := Lib.hid (((Below.refl w.heap.size w).alloc (Nat.le_refl _) (.cells #[.int .i64 x, .int .i64 y, .int .i64 z] 23)).trans (hb.mono (by simp)))
  clear hb
  go_wp2
  go_ret2
  exact ⟨rfl, HB.out⟩

set_option maxRecDepth 100000 in
set_option maxHeartbeats 4000000 in
theorem rnew_any (nb np sz : Nat) (w : World) (hg : Gd nb np sz) (X : Nat → Prop) (hX : ∀ b, X b → b < w.heap.size) (l : List Int) (a : Option Addr) (m c : Nat) (ha : Ri w a l) (hl : l.length = m) :
    Calls Try.prog 18 #[geoV nb np sz, .slice a m c] w fun e w' => Below w.heap.size w w' ∧
      (((∀ x ∈ l, 0 ≤ x ∧ x < nb) ∧ ∃ o : Rb, e = .returned (.tuple #[.pointer (some ⟨o.g, 0, none⟩), .int .i64 0]) ∧ RcAt w' (fun b => X b ∨ o.F b) o nb np sz false ∧ ∀ b, o.F b → w.heap.size ≤ b) ∨ ((∃ x ∈ l, ¬ (0 ≤ x ∧ x < nb)) ∧ e = .returned (.tuple #[.pointer none, .int .i64 1]))) := by
  have HR := Lib.hid (fun W => rright_yes (a := nb) (b := np) (s := sz) (by unfold Gd at hg; unfold GdI; omega) W)
  have HBl := Lib.hid (fun W (hW : w.heap.size ≤ W.heap.size) => rblank_any nb np sz W hg X (fun b h => Nat.lt_of_lt_of_le (hX b h) hW))
  clear hX
  have hnb : nb < 129 := hg.2.1
  have HA := Lib.hid ha
  have HL := Lib.hid hl
  have m9 : m ≤ 9223372036854775807 := by have := ha.1; unfold maxLen at this; omega
  have BG := Blk.new w 23 #[.int .i64 nb, .int .i64 np, .int .i64 sz]
  have HG1 := Lib.hid BG
  have q0 := BG.cell 0
  have q1 := BG.cell 1
  have q2 := BG.cell 2
  have HB0 := Lib.hid ((Below.refl w.heap.size w).alloc (Nat.le_refl _) (.cells #[.int .i64 nb, .int .i64 np, .int .i64 sz] 23))
  unfold geoV at HR HBl ⊢
  clear ha hl hg BG
  go_enter Try.func18, Try.ntmps18
  go_upto_region 1 with (fail)
  generalize (w.alloc (.cells #[.int .i64 nb, .int .i64 np, .int .i64 sz] 23)) = W at q0 q1 q2 HB0 HG1 ⊢
  obtain ⟨gb, hgb⟩ : ∃ gb, w.heap.size = gb := ⟨_, rfl⟩
  have HGb := Lib.hid hgb
  rw [hgb] at q0 q1 q2 HG1 ⊢
  clear hgb
  go_wp2_with fail
  refine (HR.out _).mono ?_
  rintro r w1 ⟨rfl, hb⟩
  have HB1 := Lib.hid (HB0.out.trans (hb.mono HB0.out.size))
  have HG2 := Lib.hid (HG1.out.below hb HG1.out.lt)
  clear hb q0 q1 q2 HG1
  have q0 : w1.cell? ⟨gb, 0, none⟩ = some (.int .i64 nb) := HG2.out.cell 0
  have q1 : w1.cell? ⟨gb, 1, none⟩ = some (.int .i64 np) := HG2.out.cell 1
  have q2 : w1.cell? ⟨gb, 2, none⟩ = some (.int .i64 sz) := HG2.out.cell 2
  go_wp2_with fail
  refine (HBl.out _ HB1.out.size).mono ?_
  rintro r w2 ⟨⟨o, rfl, hrc, hof⟩, hb⟩
  have HB2 := Lib.hid (HB1.out.trans (hb.mono HB1.out.size))
  have HG3 := Lib.hid (HG2.out.below hb HG2.out.lt)
  have HRC := Lib.hid hrc
  have HOF : Hid (∀ b, o.F b → w.heap.size ≤ b ∧ gb < b) := Lib.hid (fun b h => by
    have h1 := hof b h
    have h2 := HG2.out.lt
    have h3 := HB1.out.size
    omega)
  clear hb hrc hof q0 q1 q2 HG2
  go_wp2_with fail
  go_loopw [7] (fun i wr => ∃ j : Nat, j ≤ m ∧ i = .int .i64 j ∧ Hid (∀ n (hn : n < l.length), n < j → 0 ≤ l[n] ∧ l[n] < nb) ∧ Hid (RcAt wr (fun b => X b ∨ o.F b) o nb np sz false) ∧ Hid (Blk wr gb 23 #[.int .i64 nb, .int .i64 np, .int .i64 sz]) ∧ Hid (Below w.heap.size w wr)) (fun i _ => m - (intOf i).toNat)
  case atStart => exact ⟨0, by omega, rfl, Lib.hid fun n _ h => absurd h (Nat.not_lt_zero _), HRC, HG3, HB2⟩
  case round =>
    obtain ⟨j, hj, rfl, hA, hC, hG, hB⟩ := hrel
    by_cases hlt : j < m
    · have hjl : j < l.length := by have := HL.out; omega
      rcases HA.out.2 with h0 | ⟨b, off, rfl, hcs⟩
      · rw [h0] at hjl; simp at hjl
      have q9w := hcs j hjl
      have q0 := (hB.out.cell (block_lt_of_cell (hcs j hjl))).trans (hcs j hjl)
      have c0 := hG.out.cell 0
      have jl' : (j : Int) < (m : Int) := by omega
      have j0 : (0 : Int) ≤ (j : Int) := by omega
      have HNo : Hid (¬ (0 ≤ l[j] ∧ l[j] < (nb : Int)) → ∃ x ∈ l, ¬ (0 ≤ x ∧ x < (nb : Int))) := Lib.hid fun h => ⟨_, List.getElem_mem hjl, h⟩
      have HYes : Hid (0 ≤ l[j] ∧ l[j] < (nb : Int) → ∀ n (hn : n < l.length), n < j + 1 → 0 ≤ l[n] ∧ l[n] < nb) := Lib.hid fun h n hn g => by
        by_cases e : n = j
        · subst e; exact h
        · exact hA.out n hn (by omega)
      clear hcs
      generalize l[j] = x at q0 q9w HNo HYes
      by_cases hx0 : x < 0
      · have t0 : decide (x < 0) = true := decide_eq_true hx0
        have HN' := Lib.hid (HNo.out (by omega))
        clear hx0 HYes
        go_upto_region 7 with (fail)
        go_quiet (fail)
        go_wp2
        go_ret2
        exact ⟨below_drewN hB.out nq, .inr ⟨HN'.out, rfl⟩⟩
      have t0 : decide (x < 0) = false := decide_eq_false hx0
      by_cases hx1 : (nb : Int) ≤ x
      · have t1 : decide ((nb : Int) ≤ x) = true := decide_eq_true hx1
        have HN' := Lib.hid (HNo.out (by omega))
        clear hx0 hx1 HYes
        go_upto_region 7 with (fail)
        go_quiet (fail)
        go_wp2
        go_ret2
        exact ⟨below_drewN hB.out nq, .inr ⟨HN'.out, rfl⟩⟩
      have t1 : decide ((nb : Int) ≤ x) = false := decide_eq_false hx1
      obtain ⟨y, rfl⟩ : ∃ y : Nat, x = y := ⟨x.toNat, by omega⟩
      have yk : y < nb := by omega
      have y0 : (0 : Int) ≤ (y : Int) := by omega
      have y1 : (y : Int) < (nb : Int) := by omega
      obtain ⟨-, -, -, r6, -⟩ := hC.out.rows
      obtain ⟨-, -, ⟨zb, cb⟩, -⟩ := hC.out.row yk
      have fb := (hC.out.froz y).2.2.2.2.1
      have HY' := Lib.hid (HYes.out (by omega))
      clear hx0 hx1 HNo HYes
      go_upto_region 7 with (fail)
      go_quiet (fail)
      have C9 := Lib.hid (hC.out.below (below_drewN (Below.refl _ wr) nq))
      have G9 := Lib.hid (show Blk (wr.drewN nq) gb 23 _ from hG.out)
      have B9 := Lib.hid (below_drewN hB.out nq)
      go_upto_region 9 with (fail)
      generalize wr.drewN nq = W9 at C9 G9 B9 ⊢
      clear r6 cb fb
      obtain ⟨-, -, -, r6, -⟩ := C9.out.rows
      obtain ⟨-, -, ⟨zb, cb⟩, -⟩ := C9.out.row yk
      have fb := (C9.out.froz y).2.2.2.2.1
      have q9 := (B9.out.cell (block_lt_of_cell q9w)).trans q9w
      have C4 := Lib.hid ((C9.out.putb y true).below (Below.refl _ _).drew)
      have hne : gb ≠ o.b := by have := (HOF.out o.b (by simp [Rb.F])).2; omega
      have G4 := Lib.hid (show Blk (W9.setCell ⟨o.b, y, none⟩ (.bool true)).drew gb 23 _ from G9.out.far (p := ⟨o.b, y, none⟩) hne (.bool true))
      have B4 := Lib.hid (B9.out.setCell (p := ⟨o.b, y, none⟩) (HOF.out o.b (by simp [Rb.F])).1 (.bool true)).drew
      clear hne
      go_region
      go_wp2
      go_roundw
      case rel => exact ⟨j + 1, by omega, by go_num, HY', C4, G4, B4⟩
      case measure => simp [intOf]; omega
    · have kl : ¬ (j : Int) < (m : Int) := by omega
      have HAll : Hid (∀ x ∈ l, 0 ≤ x ∧ x < (nb : Int)) := Lib.hid fun x hx => by
        obtain ⟨n, hn, rfl⟩ := List.mem_iff_getElem.1 hx
        exact hA.out n hn (by have := HL.out; omega)
      go_wp2
      go_ret2
      exact ⟨hB.out, .inl ⟨HAll.out, o, rfl, hC.out, fun b hb => (HOF.out b hb).1⟩⟩

end Go.Proofs.Ytiaaeiefgnoiaaa
