/-
  A manager's open block: opened, and filled by a page. Nothing of one statement alone stands here.
-/
import Derived.Test.YtnnpdlebgfjihaaBlkTell
import Derived.Test.YtnnpdlebgfjihaaNandProg
namespace Gcm
open Go Go.RowKit
/-- which free block is to be opened, of the first ones -/
def ob (f : Nat → Int) (l : List Bk) : Nat → Int
  | 0 => -1
  | k + 1 => if (l[k]!.st == 0) = true then (if ob f l k < 0 ∨ f k < f (ob f l k).toNat then (k : Int) else ob f l k) else ob f l k
theorem ob_lt (f : Nat → Int) (l : List Bk) (k : Nat) : -1 ≤ ob f l k ∧ ob f l k < k := by
  induction k with
  | zero => simp [ob]
  | succ k ih =>
    rw [ob]
    split
    · split
      · omega
      · omega
    · omega
theorem ob_at {f : Nat → Int} {l : List Bk} {k : Nat} {y : Bk} (h : l[k]! = y) : ob f l (k + 1) = if (y.st == 0) = true then (if ob f l k < 0 ∨ f k < f (ob f l k).toNat then (k : Int) else ob f l k) else ob f l k := by subst h; rfl
end Gcm
namespace Go.Proofs.Ytnnpdlebgfjihaa
open Go.RowKit Crcm Gcm Go.ChangeShapes

theorem MgAt.put4 {w : World} {M : Nat} {m : Mg} (h : MgAt w M m) (q : Nat) (hq : q < m.l.length) (y : Bk) (hy : Bw y) : MgAt (ov4 w m.g (q * 4) y) M { m with l := m.l.set q y } := by
  refine ⟨?_, h.own.put q hq y, fun x hx => ?_, ?_, h.ne⟩
  · have := (((h.blk.far (p := ⟨m.g, q * 4, none⟩) h.ne (.int .i64 y.st)).far (p := ⟨m.g, q * 4 + 1, none⟩) h.ne (.int .i64 y.lv)).far (p := ⟨m.g, q * 4 + 2, none⟩) h.ne (.int .i64 y.wr)).far (p := ⟨m.g, q * 4 + 3, none⟩) h.ne (.int .i64 y.nx)
    unfold mgV at this ⊢
    dsimp only
    rw [List.length_set]
    exact this
  · rcases List.mem_or_eq_of_mem_set hx with g | g
    · exact h.wf x g
    · rw [g]; exact hy
  · have := h.small
    dsimp only
    rw [List.length_set]
    exact this
theorem MgAt.putf {w : World} {M : Nat} {m : Mg} (h : MgAt w M m) (q i : Nat) (hq : q < m.l.length) (hi : i < 4) (v : Int) (hv : I64 v) : MgAt (w.setCell ⟨m.g, q * 4 + i, none⟩ (.int .i64 v)) M { m with l := m.l.set q (setf m.l[q]! i v) } := by
  refine ⟨?_, h.own.putf q i hq hi v, fun x hx => ?_, ?_, h.ne⟩
  · have := h.blk.far (p := ⟨m.g, q * 4 + i, none⟩) h.ne (.int .i64 v)
    unfold mgV at this ⊢
    dsimp only
    rw [List.length_set]
    exact this
  · rcases List.mem_or_eq_of_mem_set hx with g | g
    · exact h.wf x g
    · obtain ⟨a0, a1, a2, a3⟩ := h.wf _ (getB_mem m.l q hq)
      rw [g]
      obtain rfl | rfl | rfl | rfl : i = 0 ∨ i = 1 ∨ i = 2 ∨ i = 3 := by omega
      · exact ⟨hv, a1, a2, a3⟩
      · exact ⟨a0, hv, a2, a3⟩
      · exact ⟨a0, a1, hv, a3⟩
      · exact ⟨a0, a1, a2, hv⟩
  · have := h.small
    dsimp only
    rw [List.length_set]
    exact this
theorem wear_ptr {w : World} {X : Nat → Prop} {o : Own} {c : Ch} (h : ChAt w X o c) (k : Nat) (hk : k < c.nb) :
    Calls Try.prog 67 #[.pointer (some ⟨o.bc, 0, none⟩), .int .i64 k] w fun e w' => e = .returned (.int .i64 (c.wear k)) ∧ w = w' := wear_any h k hk

set_option maxRecDepth 100000 in
set_option maxHeartbeats 2000000 in
theorem openBlock_new {w : World} {X : Nat → Prop} {M : Nat} {m : Mg} {o : Own} {c : Ch} (h : MgAt w M m) (hc : ChAt w X o c) (hp : m.cp = o.p) (hn : m.l.length = c.nb) (hno : ∀ j, j < c.nb → (m.l[j]!.st == 1) = false) (q : Nat) (hq : ob c.wear m.l c.nb = q) :
    Calls Try.prog 37 #[.pointer (some ⟨M, 0, none⟩)] w fun e w' => e = .returned (.int .i64 q) ∧ MgAt w' M { m with l := m.l.set q ⟨1, 0, 0, 0⟩ } ∧ Kp (fun b => b = m.g) w w' := by
  obtain ⟨c0, c1, -, -, -⟩ := h.cells
  rw [hp] at c0
  rw [hn] at c1
  have HH := Lib.hid h
  have hM := h.blk.lt
  have HW := Lib.hid (fun W (hb : Below w.heap.size w W) k (hk : k < c.nb) => wear_ptr (hc.below hb) k hk)
  have hnb := hc.good.2.1
  have HQ := Lib.hid hq
  have HN := Lib.hid hn
  have HNo := Lib.hid hno
  have HM := Lib.hid hM
  clear h hc hp hq hn hno hM
  unfold Own.p at c0
  generalize c.wear = f at HW HQ
  generalize hcn : c.nb = n at *
  clear hcn
  go_enter Try.func37, Try.ntmps37
  go_wp2_with fail
  go_loopw [3, 11] (fun fr i wr => ∃ k : Nat, k ≤ n ∧ i = .int .i64 k ∧ fr = .int .i64 (ob f m.l k) ∧ Hid (Below w.heap.size w wr)) (fun _ i _ => n - (intOf i).toNat)
  case atStart => exact ⟨0, by omega, rfl, rfl, Lib.hid (Below.refl _ _)⟩
  case round =>
    obtain ⟨k, hk, rfl, rfl, E⟩ := hrel
    by_cases hlt : k < n
    · have hkl : k < m.l.length := by rw [HN.out]; exact hlt
      obtain ⟨e0, e1, e2, e3⟩ := at_below (HH.out.own.at k hkl) E.out
      have d0 := (E.out.cell (p := ⟨M, 0, none⟩) HM.out).trans c0
      have hn1 := HNo.out k hlt
      obtain ⟨y, hy⟩ : ∃ y, m.l[k]! = y := ⟨_, rfl⟩
      rw [hy] at e0 e1 e2 e3 hn1
      have HR := Lib.hid (ob_at (f := f) hy)
      have hbd := ob_lt f m.l k
      have HB := Lib.hid (E.out.alloc E.out.size (.cells #[.int .i64 y.st, .int .i64 y.lv, .int .i64 y.wr, .int .i64 y.nx] 66))
      clear hy hkl E
      obtain ⟨st, lv, wr', nx⟩ := y
      dsimp only at HR HB e0 e1 e2 e3 hn1
      have d0' := cell_alloc d0 (.cells #[.int .i64 st, .int .i64 lv, .int .i64 wr', .int .i64 nx] 66)
      generalize ob f m.l k = s at HR hbd ⊢
      cases hs0 : st == 0 with
      | false =>
        rw [if_neg (by rw [hs0]; exact Bool.false_ne_true)] at HR
        go_wp2
        go_roundw
        case rel => exact ⟨k + 1, by omega, by go_num, by rw [HR.out], HB⟩
        case measure => simp [intOf]; omega
      | true =>
        rw [if_pos hs0] at HR
        by_cases h0 : s < 0
        · rw [if_pos (.inl h0)] at HR
          have t0 : decide (s < 0) = true := decide_eq_true h0
          clear d0 d0'
          go_wp2_with fail
          refine wp_region_later (by kernel_rfl) (by kernel_rfl) ?_
          repeat (go_big_quiet_step (fail))
          refine wpQuiet_nil ?_
          rintro _ ⟨m', rfl⟩
          go_wp2
          go_roundw
          case rel => exact ⟨k + 1, by omega, by go_num, by rw [HR.out], Lib.hid (HB.out.trans (m'.bel.mono HB.out.size))⟩
          case measure => simp [intOf]; omega
        · obtain ⟨p, rfl⟩ : ∃ p : Nat, s = p := ⟨s.toNat, by omega⟩
          rw [Int.toNat_natCast] at HR
          have t0 : decide ((p : Int) < 0) = false := decide_eq_false h0
          have f0 := fun m' : Later (wr.alloc (.cells #[.int .i64 st, .int .i64 lv, .int .i64 wr', .int .i64 nx] 66)) => m'.cell d0'
          have W1 := Lib.hid (fun m' : Later (wr.alloc (.cells #[.int .i64 st, .int .i64 lv, .int .i64 wr', .int .i64 nx] 66)) => later_same (HW.out m'.to (HB.out.trans (m'.bel.mono HB.out.size)) k hlt))
          have W2 := Lib.hid (fun m' : Later (wr.alloc (.cells #[.int .i64 st, .int .i64 lv, .int .i64 wr', .int .i64 nx] 66)) => later_same (HW.out m'.to (HB.out.trans (m'.bel.mono HB.out.size)) p (by omega)))
          clear d0 d0'
          generalize f k = x1 at HR W1
          generalize f p = x2 at HR W2
          by_cases h1 : x1 < x2
          · rw [if_pos (.inr h1)] at HR
            have t1 : decide (x1 < x2) = true := decide_eq_true h1
            go_wp2_with fail
            refine wp_region_later (by kernel_rfl) (by kernel_rfl) ?_
            repeat (go_big_quiet_step (with_reducible first | exact W1.out _ | exact W2.out _))
            refine wpQuiet_nil ?_
            rintro _ ⟨m', rfl⟩
            go_wp2
            go_roundw
            case rel => exact ⟨k + 1, by omega, by go_num, by rw [HR.out], Lib.hid (HB.out.trans (m'.bel.mono HB.out.size))⟩
            case measure => simp [intOf]; omega
          · rw [if_neg (by omega)] at HR
            have t1 : decide (x1 < x2) = false := decide_eq_false h1
            go_wp2_with fail
            refine wp_region_later (by kernel_rfl) (by kernel_rfl) ?_
            repeat (go_big_quiet_step (with_reducible first | exact W1.out _ | exact W2.out _))
            refine wpQuiet_nil ?_
            rintro _ ⟨m', rfl⟩
            go_wp2
            go_roundw
            case rel => exact ⟨k + 1, by omega, by go_num, by rw [HR.out], Lib.hid (HB.out.trans (m'.bel.mono HB.out.size))⟩
            case measure => simp [intOf]; omega
    · have : k = n := by omega
      subst this
      have hql := ob_lt f m.l k
      rw [HQ.out] at hql ⊢
      have hqk : q < k := by omega
      have hqm : q < m.l.length := by rw [HN.out]; exact hqk
      have d1 := (E.out.cell (p := ⟨M, 1, none⟩) HM.out).trans c1
      have M1 := Lib.hid (HH.out.below E.out)
      obtain ⟨e0, e1, e2, e3⟩ := M1.out.own.at q hqm
      have f0 := M1.out.own.frozen (q * 4)
      have f1 := M1.out.own.frozen (q * 4 + 1)
      have f2 := M1.out.own.frozen (q * 4 + 2)
      have f3 := M1.out.own.frozen (q * 4 + 3)
      have P := Lib.hid (M1.out.own.put q hqm ⟨1, 0, 0, 0⟩)
      clear c0 c1
      generalize m.l[q]!.st = y0 at e0
      generalize m.l[q]!.lv = y1 at e1
      generalize m.l[q]!.wr = y2 at e2
      generalize m.l[q]!.nx = y3 at e3
      go_wp2
      go_ret
      exact ⟨rfl, M1.out.put4 q hqm ⟨1, 0, 0, 0⟩ (by unfold Bw I64; simp), ((((Kp.of_below (F := fun b => b = m.g) E.out).setCell (p := ⟨m.g, q * 4, none⟩) (.inl rfl) _).setCell (p := ⟨m.g, q * 4 + 1, none⟩) (.inl rfl) _).setCell (p := ⟨m.g, q * 4 + 2, none⟩) (.inl rfl) _).setCell (p := ⟨m.g, q * 4 + 3, none⟩) (.inl rfl) _⟩
end Go.Proofs.Ytnnpdlebgfjihaa
