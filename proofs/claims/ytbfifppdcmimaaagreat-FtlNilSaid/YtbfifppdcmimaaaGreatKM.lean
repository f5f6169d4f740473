/-
  A manager's open block: opened, and filled by a page. Nothing of one statement alone stands here.
-/
import Derived.Test.YtbfifppdcmimaaaGreatKL
import Derived.Test.YtbfifppdcmimaaaGreatKD
import Derived.Test.YtbfifppdcmimaaaGreatKE
namespace Gcm
open Go Go.RowKit
/-- which free block is to be opened, of the first ones -/
def ob (f : Nat → Int) (l : List Bk) : Nat → Int
  | 0 => -1
  | k + 1 => if (l[k]!.st == 0) = true then (if ob f l k < 0 ∨ f k < f (ob f l k).toNat then (k : Int) else ob f l k) else ob f l k
theorem ob_lt (f : Nat → Int) (l : List Bk) (k : Nat) : -1 ≤ ob f l k ∧ ob f l k < k := by
  induction k with
  | zero => simp [ob]
  | succ k ih =>
    rw [ob]
    split
    · split
      · omega
      · omega
    · omega
theorem ob_at {f : Nat → Int} {l : List Bk} {k : Nat} {y : Bk} (h : l[k]! = y) : ob f l (k + 1) = if (y.st == 0) = true then (if ob f l k < 0 ∨ f k < f (ob f l k).toNat then (k : Int) else ob f l k) else ob f l k := by subst h; rfl
end Gcm
namespace Go.Proofs.YtbfifppdcmimaaaGreat
open Go.RowKit Crcm Gcm Go.ChangeShapes

theorem MgAt.put4 {w : World} {M : Nat} {m : Mg} (h : MgAt w M m) (q : Nat) (hq : q < m.l.length) (y : Bk) (hy : Bw y) : MgAt (ov4 w m.g (q * 4) y) M { m with l := m.l.set q y } := by
  refine ⟨?_, h.own.put q hq y, fun x hx => ?_, ?_, h.ne⟩
  · have := (((h.blk.far (p := ⟨m.g, q * 4, none⟩) h.ne (.int .i64 y.st)).far (p := ⟨m.g, q * 4 + 1, none⟩) h.ne (.int .i64 y.lv)).far (p := ⟨m.g, q * 4 + 2, none⟩) h.ne (.int .i64 y.wr)).far (p := ⟨m.g, q * 4 + 3, none⟩) h.ne (.int .i64 y.nx)
    unfold mgV at this ⊢
    dsimp only
    rw [List.length_set]
    exact this
  · rcases List.mem_or_eq_of_mem_set hx with g | g
    · exact h.wf x g
    · rw [g]; exact hy
  · have := h.small
    dsimp only
    rw [List.length_set]
    exact this
theorem MgAt.putf {w : World} {M : Nat} {m : Mg} (h : MgAt w M m) (q i : Nat) (hq : q < m.l.length) (hi : i < 4) (v : Int) (hv : I64 v) : MgAt (w.setCell ⟨m.g, q * 4 + i, none⟩ (.int .i64 v)) M { m with l := m.l.set q (setf m.l[q]! i v) } := by
  refine ⟨?_, h.own.putf q i hq hi v, fun x hx => ?_, ?_, h.ne⟩
  · have := h.blk.far (p := ⟨m.g, q * 4 + i, none⟩) h.ne (.int .i64 v)
    unfold mgV at this ⊢
    dsimp only
    rw [List.length_set]
    exact this
  · rcases List.mem_or_eq_of_mem_set hx with g | g
    · exact h.wf x g
    · obtain ⟨a0, a1, a2, a3⟩ := h.wf _ (getB_mem m.l q hq)
      rw [g]
      obtain rfl | rfl | rfl | rfl : i = 0 ∨ i = 1 ∨ i = 2 ∨ i = 3 := by omega
      · exact ⟨hv, a1, a2, a3⟩
      · exact ⟨a0, hv, a2, a3⟩
      · exact ⟨a0, a1, hv, a3⟩
      · exact ⟨a0, a1, a2, hv⟩
  · have := h.small
    dsimp only
    rw [List.length_set]
    exact this
theorem wear_ptr {w : World} {X : Nat → Prop} {o : Own} {c : Ch} (h : ChAt w X o c) (k : Nat) (hk : k < c.nb) :
    Calls Tryz.prog 111 #[.pointer (some ⟨o.bc, 0, none⟩), .int .i64 k] w fun e w' => e = .returned (.int .i64 (c.wear k)) ∧ w = w' := wear_any h k hk

set_option maxRecDepth 100000 in
set_option maxHeartbeats 2000000 in
theorem openBlock_new {w : World} {X : Nat → Prop} {M : Nat} {m : Mg} {o : Own} {c : Ch} (h : MgAt w M m) (hc : ChAt w X o c) (hp : m.cp = o.p) (hn : m.l.length = c.nb) (hno : ∀ j, j < c.nb → (m.l[j]!.st == 1) = false) (q : Nat) (hq : ob c.wear m.l c.nb = q) :
    Calls Tryz.prog 135 #[.pointer (some ⟨M, 0, none⟩)] w fun e w' => e = .returned (.int .i64 q) ∧ MgAt w' M { m with l := m.l.set q ⟨1, 0, 0, 0⟩ } ∧ Kp (fun b => b = m.g) w w' := by
  obtain ⟨c0, c1, -, -, -⟩ := h.cells
  rw [hp] at c0
  rw [hn] at c1
  have HH := Lib.hid h
  have hM := h.blk.lt
  have HW := Lib.hid (fun W (hb : Below w.heap.size w W) k (hk : k < c.nb) => wear_ptr (hc.below hb) k hk)
  have hnb := hc.good.2.1
  have HQ := Lib.hid hq
  have HN := Lib.hid hn
  have HNo := Lib.hid hno
  have HM := Lib.hid hM
  clear h hc hp hq hn hno hM
  unfold Own.p at c0
  generalize c.wear = f at HW HQ
  generalize hcn : c.nb = n at *
  clear hcn
  go_enter Tryz.func135, Tryz.ntmps135
  go_wp2_with fail
  go_loopw [3, 11] (fun fr i wr => ∃ k : Nat, k ≤ n ∧ i = .int .i64 k ∧ fr = .int .i64 (ob f m.l k) ∧ Hid (Below w.heap.size w wr)) (fun _ i _ => n - (intOf i).toNat)
  case atStart => exact ⟨0, by omega, rfl, rfl, Lib.hid (Below.refl _ _)⟩
  case round =>
    obtain ⟨k, hk, rfl, rfl, E⟩ := hrel
    by_cases hlt : k < n
    · have hkl : k < m.l.length := by rw [HN.out]; exact hlt
      obtain ⟨e0, e1, e2, e3⟩ := at_below (HH.out.own.at k hkl) E.out
      have d0 := (E.out.cell (p := ⟨M, 0, none⟩) HM.out).trans c0
      have hn1 := HNo.out k hlt
      obtain ⟨y, hy⟩ : ∃ y, m.l[k]! = y := ⟨_, rfl⟩
      rw [hy] at e0 e1 e2 e3 hn1
      have HR := Lib.hid (ob_at (f := f) hy)
      have hbd := ob_lt f m.l k
      have HB := Lib.hid (E.out.alloc E.out.size (.cells #[.int .i64 y.st, .int .i64 y.lv, .int .i64 y.wr, .int .i64 y.nx] 144))
      clear hy hkl E
      obtain ⟨st, lv, wr', nx⟩ := y
      dsimp only at HR HB e0 e1 e2 e3 hn1
      have d0' := cell_alloc d0 (.cells #[.int .i64 st, .int .i64 lv, .int .i64 wr', .int .i64 nx] 144)
      generalize ob f m.l k = s at HR hbd ⊢
      cases hs0 : st == 0 with
      | false =>
        rw [if_neg (by rw [hs0]; exact Bool.false_ne_true)] at HR
        go_wp2
        go_roundw
        case rel => exact ⟨k + 1, by omega, by go_num, by rw [HR.out], HB⟩
        case measure => simp [intOf]; omega
      | true =>
        rw [if_pos hs0] at HR
        by_cases h0 : s < 0
        · rw [if_pos (.inl h0)] at HR
          have t0 : decide (s < 0) = true := decide_eq_true h0
          clear d0 d0'
          go_wp2_with fail
          refine wp_region_later (by kernel_rfl) (by kernel_rfl) ?_
          repeat (go_big_quiet_step (fail))
          refine wpQuiet_nil ?_
          rintro _ ⟨m', rfl⟩
          go_wp2
          go_roundw
          case rel => exact ⟨k + 1, by omega, by go_num, by rw [HR.out], Lib.hid (HB.out.trans (m'.bel.mono HB.out.size))⟩
          case measure => simp [intOf]; omega
        · obtain ⟨p, rfl⟩ : ∃ p : Nat, s = p := ⟨s.toNat, by omega⟩
          rw [Int.toNat_natCast] at HR
          have t0 : decide ((p : Int) < 0) = false := decide_eq_false h0
          have f0 := fun m' : Later (wr.alloc (.cells #[.int .i64 st, .int .i64 lv, .int .i64 wr', .int .i64 nx] 144)) => m'.cell d0'
          have W1 := Lib.hid (fun m' : Later (wr.alloc (.cells #[.int .i64 st, .int .i64 lv, .int .i64 wr', .int .i64 nx] 144)) => later_same (HW.out m'.to (HB.out.trans (m'.bel.mono HB.out.size)) k hlt))
          have W2 := Lib.hid (fun m' : Later (wr.alloc (.cells #[.int .i64 st, .int .i64 lv, .int .i64 wr', .int .i64 nx] 144)) => later_same (HW.out m'.to (HB.out.trans (m'.bel.mono HB.out.size)) p (by omega)))
          clear d0 d0'
          generalize f k = x1 at HR W1
          generalize f p = x2 at HR W2
          by_cases h1 : x1 < x2
          · rw [if_pos (.inr h1)] at HR
            have t1 : decide (x1 < x2) = true := decide_eq_true h1
            go_wp2_with fail
            refine wp_region_later (by kernel_rfl) (by kernel_rfl) ?_
            repeat (go_big_quiet_step (with_reducible first | exact W1.out _ | exact W2.out _))
            refine wpQuiet_nil ?_
            rintro _ ⟨m', rfl⟩
            go_wp2
            go_roundw
            case rel => exact ⟨k + 1, by omega, by go_num, by rw [HR.out], Lib.hid (HB.out.trans (m'.bel.mono HB.out.size))⟩
            case measure => simp [intOf]; omega
          · rw [if_neg (by omega)] at HR
            have t1 : decide (x1 < x2) = false := decide_eq_false h1
            go_wp2_with fail
            refine wp_region_later (by kernel_rfl) (by kernel_rfl) ?_
            repeat (go_big_quiet_step (with_reducible first | exact W1.out _ | exact W2.out _))
            refine wpQuiet_nil ?_
            rintro _ ⟨m', rfl⟩
            go_wp2
            go_roundw
            case rel => exact ⟨k + 1, by omega, by go_num, by rw [HR.out], Lib.hid (HB.out.trans (m'.bel.mono HB.out.size))⟩
            case measure => simp [intOf]; omega
    · have : k = n := by omega
      subst this
      have hql := ob_lt f m.l k
      rw [HQ.out] at hql ⊢
      have hqk : q < k := by omega
      have hqm : q < m.l.length := by rw [HN.out]; exact hqk
      have d1 := (E.out.cell (p := ⟨M, 1, none⟩) HM.out).trans c1
      have M1 := Lib.hid (HH.out.below E.out)
      obtain ⟨e0, e1, e2, e3⟩ := M1.out.own.at q hqm
      have f0 := M1.out.own.frozen (q * 4)
      have f1 := M1.out.own.frozen (q * 4 + 1)
      have f2 := M1.out.own.frozen (q * 4 + 2)
      have f3 := M1.out.own.frozen (q * 4 + 3)
      have P := Lib.hid (M1.out.own.put q hqm ⟨1, 0, 0, 0⟩)
      clear c0 c1
      generalize m.l[q]!.st = y0 at e0
      generalize m.l[q]!.lv = y1 at e1
      generalize m.l[q]!.wr = y2 at e2
      generalize m.l[q]!.nx = y3 at e3
      go_wp2
      go_ret
      exact ⟨rfl, M1.out.put4 q hqm ⟨1, 0, 0, 0⟩ (by unfold Bw I64; simp), ((((Kp.of_below (F := fun b => b = m.g) E.out).setCell (p := ⟨m.g, q * 4, none⟩) (.inl rfl) _).setCell (p := ⟨m.g, q * 4 + 1, none⟩) (.inl rfl) _).setCell (p := ⟨m.g, q * 4 + 2, none⟩) (.inl rfl) _).setCell (p := ⟨m.g, q * 4 + 3, none⟩) (.inl rfl) _⟩
end Go.Proofs.YtbfifppdcmimaaaGreat

/-
  A page programmed by a manager; what is left of its reserve. Nothing of one statement alone stands here.
-/
namespace Go.Proofs.YtbfifppdcmimaaaGreat
open Go.RowKit Crcm Gcm Go.ChangeShapes

theorem MgAt.kp {F : Nat → Prop} {w w' : World} {M : Nat} {m : Mg} (h : MgAt w M m) (hk : Kp F w w') (h1 : ¬ F M) (h2 : ¬ F m.g) : MgAt w' M m :=
  ⟨h.blk.kp hk h1, h.own.kp (hk.block m.g h.own.lt h2), h.wf, h.small, h.ne⟩

set_option maxRecDepth 100000 in
theorem bup_yes {w : World} {X : Nat → Prop} {M : Nat} {m : Mg} {o : Own} {c : Ch} (h : MgAt w M m) (hc : ChAt w X o c) (hp : m.cp = o.p) (hu : c.up = true) : Calls Tryz.prog 134 #[.pointer (some ⟨M, 0, none⟩)] w fun e w' => e = .returned (.int .i64 0) ∧ w = w' := by
  obtain ⟨c0, -, -, -, -⟩ := h.cells
  rw [hp] at c0
  have HU := Lib.hid (up_any hc)
  rw [hu] at HU
  clear h hc hp hu
  unfold Own.p at *
  go_enter Tryz.func134, Tryz.ntmps134
  go_wp2_with fail
  refine HU.out.mono ?_
  rintro r w' ⟨rfl, rfl⟩
  go_wp2
  go_ret
  exact ⟨rfl, rfl⟩

set_option maxRecDepth 100000 in
set_option maxHeartbeats 1000000 in
theorem bleft_same {w : World} {M : Nat} {m : Mg} (h : MgAt w M m) (hx : cnt 4 m.l m.l.length = m.b) (hr : I64 m.r) : Calls Tryz.prog 46 #[.pointer (some ⟨M, 0, none⟩)] w fun e w' => e = .returned (.int .i64 m.r) ∧ Below w.heap.size w w' := by
  obtain ⟨-, c1, c2, c3, -⟩ := h.cells
  have HC := Lib.hid (fun q : Later w => later_below (count_any m.l (some ⟨m.g, 0, none⟩) m.cap m.l.length 4 q.to (h.rg.below q.bel) rfl))
  rw [hx] at HC
  have e1 : wrap64 m.r = m.r := by unfold I64 at hr; exact IntWalk.wrap64_in _ ⟨by omega, by omega⟩
  have E1 := Lib.hid e1
  have f1 := fun q : Later w => q.cell c1
  have f3 := fun q : Later w => q.cell c3
  have f2 := fun q : Later w => q.cell c2
  generalize m.b = b at *
  generalize m.r = r at *
  generalize m.l.length = n at *
  clear h hx hr e1 c1 c2 c3
  go_enter Tryz.func46, Tryz.ntmps46
  go_wp2_with fail
  refine wp_region_later (by kernel_rfl) (by kernel_rfl) ?_
  repeat (go_big_quiet_step (with_reducible first | exact HC.out _))
  refine wpQuiet_nil ?_
  rintro _ ⟨q, rfl⟩
  have g2 := f2 q
  go_wp2
  go_ret
  exact ⟨by rw [E1.out]; rfl, q.bel⟩
set_option maxRecDepth 100000 in
set_option maxHeartbeats 1000000 in
theorem fill_on {w : World} {X : Nat → Prop} {M : Nat} {m : Mg} {o : Own} {c : Ch} (h : MgAt w M m) (hc : ChAt w X o c) (hp : m.cp = o.p) (hX : X m.g) (ho : ¬ o.F c.nb m.g) (k : Nat) (hk : k < m.l.length) (st lv wr nx : Int) (hy : m.l[k]! = ⟨st, lv, wr, nx⟩) (hlv : I64 (wrap64 (lv + 1))) (hnx : I64 (wrap64 (nx + 1))) (hne : wrap64 (nx + 1) ≠ c.np) :
    Calls Tryz.prog 137 #[.pointer (some ⟨M, 0, none⟩), .int .i64 k] w fun e w' => e = .returned (.tuple #[]) ∧ MgAt w' M { m with l := m.l.set k ⟨st, wrap64 (lv + 1), wr, wrap64 (nx + 1)⟩ } ∧ Kp (fun b => b = m.g) w w' := by
  obtain ⟨c0, c1, -, -, -⟩ := h.cells
  rw [hp] at c0
  obtain ⟨e0, e1, e2, e3⟩ := h.own.at k hk
  have f1 := h.own.frozen (k * 4 + 1)
  have f3 := h.own.frozen (k * 4 + 3)
  have P1 := h.putf k 3 hk (by omega) _ hnx
  have hs : (m.l.set k (setf m.l[k]! 3 (wrap64 (nx + 1)))).set k (setf (m.l.set k (setf m.l[k]! 3 (wrap64 (nx + 1))))[k]! 1 (wrap64 (lv + 1))) = m.l.set k ⟨st, wrap64 (lv + 1), wr, wrap64 (nx + 1)⟩ := by
    rw [set_getB _ _ _ _ hk, if_pos rfl, List.set_set, hy]
    rfl
  have P2 : Hid (MgAt ((w.setCell ⟨m.g, k * 4 + 3, none⟩ (.int .i64 (wrap64 (nx + 1)))).setCell ⟨m.g, k * 4 + 1, none⟩ (.int .i64 (wrap64 (lv + 1)))) M { m with l := m.l.set k ⟨st, wrap64 (lv + 1), wr, wrap64 (nx + 1)⟩ }) := Lib.hid (by
    have := P1.putf k 1 (by rw [List.length_set]; exact hk) (by omega) _ hlv
    dsimp only at this
    rw [hs] at this
    exact this)
  have HK := Lib.hid (((Kp.refl (fun b => b = m.g) w).setCell (p := ⟨m.g, k * 4 + 3, none⟩) (.inl rfl) (.int .i64 (wrap64 (nx + 1)))).setCell (p := ⟨m.g, k * 4 + 1, none⟩) (.inl rfl) (.int .i64 (wrap64 (lv + 1))))
  have hC2 := hc.kp HK.out (fun b hb => by rw [hb]; exact hX) (fun b hb e => ho (by rw [← e]; exact hb))
  have HG := Lib.hid (fun q : Later ((w.setCell ⟨m.g, k * 4 + 3, none⟩ (.int .i64 (wrap64 (nx + 1)))).setCell ⟨m.g, k * 4 + 1, none⟩ (.int .i64 (wrap64 (lv + 1)))) => later_below (geo_any (hC2.below q.bel)))
  have hMg := h.ne
  have q0 := P2.out.cells.1
  have q3 := (P2.out.own.at k (by simpa using hk)).2.2.2
  dsimp only at q0 q3
  rw [set_getB _ _ _ _ hk, if_pos rfl] at q3
  rw [hp] at q0
  have r0 := fun q : Later ((w.setCell ⟨m.g, k * 4 + 3, none⟩ (.int .i64 (wrap64 (nx + 1)))).setCell ⟨m.g, k * 4 + 1, none⟩ (.int .i64 (wrap64 (lv + 1)))) => q.cell q0
  have r3 := fun q : Later ((w.setCell ⟨m.g, k * 4 + 3, none⟩ (.int .i64 (wrap64 (nx + 1)))).setCell ⟨m.g, k * 4 + 1, none⟩ (.int .i64 (wrap64 (lv + 1)))) => q.cell q3
  rw [hy] at e0 e1 e2 e3
  dsimp only at e0 e1 e2 e3 r3
  have gf := gfield1
  have t0 : (wrap64 (nx + 1) == (c.np : Int)) = false := by simpa using hne
  have HKM := Lib.hid (show k < m.l.length from hk)
  clear P1 h hc hC2 hX ho hs hy hlv hnx hne q0 q3 hp
  unfold Own.p at *
  go_enter Tryz.func137, Tryz.ntmps137
  go_wp2_with fail
  refine wp_region_later (by kernel_rfl) (by kernel_rfl) ?_
  repeat (go_big_quiet_step (with_reducible first | exact HG.out _))
  refine wpQuiet_nil ?_
  rintro _ ⟨q, rfl⟩
  go_wp2
  go_end0
  exact ⟨rfl, P2.out.below q.bel, HK.out.trans (Kp.of_below q.bel)⟩
end Go.Proofs.YtbfifppdcmimaaaGreat

/-
  A page programmed by a manager in a block newly opened. Nothing of one statement alone stands here.
-/
namespace Go.Proofs.YtbfifppdcmimaaaGreat
open Go.RowKit Crcm Gcm Go.ChangeShapes

theorem prC_same (c : Ch) (k p : Nat) (l : List Int) : (prC c k p l).nb = c.nb ∧ (prC c k p l).np = c.np := by
  unfold prC endC stC
  (repeat' split) <;> exact ⟨rfl, rfl⟩
theorem one_wrap : wrap64 (0 + 1) = 1 := IntWalk.wrap64_in _ ⟨by omega, by omega⟩

set_option maxRecDepth 100000 in
set_option maxHeartbeats 2000000 in
theorem bprogram_new {w : World} {X : Nat → Prop} {M : Nat} {m : Mg} {o : Own} {c : Ch} (h : MgAt w M m) (hc : ChAt w X o c) (hp : m.cp = o.p) (hn : m.l.length = c.nb) (hu : c.up = true) (hXg : X m.g) (hoM : ¬ o.F c.nb M) (hog : ¬ o.F c.nb m.g)
    (hno : ∀ j, j < c.nb → (m.l[j]!.st == 1) = false) (q : Nat) (hq : ob c.wear m.l c.nb = q) (hE : prE c q 0 (c.sz + 32) = 0) (hk : endE (fnd c.fl c.since).kind = 0) (hnp : wrap64 (0 + 1) ≠ c.np)
    (a : Option Addr) (n cap : Nat) (l : List Int) (hr : RwX w X a l) (hl : l.length = n) (hnn : n = c.sz + 32) :
    Calls Tryz.prog 104 #[.pointer (some ⟨M, 0, none⟩), .slice a n cap] w fun e w' => e = .returned (.tuple #[.int .i64 q, .int .i64 0, .int .i64 0]) ∧ MgAt w' M { m with l := m.l.set q ⟨1, 1, 0, 1⟩ } ∧ ChAt w' X o (prC c q 0 l) ∧ Kp X w w' := by
  obtain ⟨c0, c1, -, -, -⟩ := h.cells
  have hM := h.blk.lt
  have hnb := hc.good.2.1
  have hqn : q < c.nb := by have := ob_lt c.wear m.l c.nb; omega
  have hqm : q < m.l.length := by rw [hn]; exact hqn
  have HUp := Lib.hid (bup_yes h hc hp hu)
  have HGe := Lib.hid (geo_any hc)
  have hsz : wrap64 ((c.sz : Int) + 32) = n := by
    have := hc.good.2.2.2.2
    rw [IntWalk.wrap64_in _ ⟨by omega, by omega⟩]
    omega
  have t0 : ((n : Int) == wrap64 ((c.sz : Int) + 32)) = true := by rw [hsz]; simp
  have HO := Lib.hid (fun W (hb : Below w.heap.size w W) => openBlock_new (h.below hb) (hc.below hb) hp hn hno q hq)
  have gf := gfield2
  rw [hp] at c0
  have HH := Lib.hid h
  have HCh := Lib.hid hc
  have HP := Lib.hid hp
  have HR := Lib.hid hr
  have HL := Lib.hid hl
  have HNN := Lib.hid hnn
  have HM := Lib.hid hM
  clear hnn hl hr
  go_enter Tryz.func104, Tryz.ntmps104
  go_wp2_with fail
  go_step3
  go_wp2_with fail
  refine HUp.out.mono ?_
  rintro r w' ⟨rfl, rfl⟩
  unfold Own.p at c0 HGe
  go_wp2_with fail
  refine HGe.out.mono ?_
  rintro r w1 ⟨rfl, hb1⟩
  have B1 := Lib.hid hb1
  clear hb1
  go_wp2_with fail
  go_step3
  go_wp2_with fail
  go_loopw [10] (fun s wr => s = .int .i64 0 ∧ Hid (w1 = wr)) (fun _ _ => 0)
  case atStart => exact ⟨rfl, Lib.hid rfl⟩
  case round =>
    obtain ⟨rfl, hw⟩ := hrel
    have hw' := hw.out
    clear hw
    subst hw'
    have HO1 := Lib.hid (HO.out w1 B1.out)
    clear HO c0 c1
    go_wp2_with fail
    refine HO1.out.mono ?_
    rintro r w2 ⟨rfl, hm2, hk2⟩
    have hne := HH.out.ne
    have C2 := (HCh.out.below B1.out).kp hk2 (fun b hb => by rw [hb]; exact hXg) (fun b hb e => hog (by rw [← e]; exact hb))
    have R2 := HR.out.kp ((Kp.of_below (F := X) B1.out).trans (hk2.mono (fun b hb => by rw [hb]; exact hXg))) (fun b hb => hb)
    have P2 : Hid (Calls Tryz.prog 136 #[.pointer (some ⟨o.bc, 0, none⟩), .int .i64 q, .int .i64 0, .slice a n cap] w2 fun e w' => e = .returned (.int .i64 0) ∧ ChAt w' X o (prC c q 0 l) ∧ Kp (o.F c.nb) w2 w') := Lib.hid (by
      have := program_yes C2 q 0 a cap l R2 (by rw [HL.out, HNN.out]) hE
      rw [hk] at this
      rw [HNN.out]
      exact this)
    obtain ⟨d0, d1, -, -, -⟩ := hm2.cells
    have d3 := (hm2.own.at q (by simpa using hqm)).2.2.2
    dsimp only at d0 d1 d3
    rw [set_getB _ _ _ _ hqm, if_pos rfl] at d3
    rw [List.length_set, hn] at d1
    rw [hp] at d0
    unfold Own.p at d0
    have K2 := Lib.hid ((Kp.of_below (F := X) B1.out).trans (hk2.mono (fun b hb => by rw [hb]; exact hXg)))
    have M2 := Lib.hid hm2
    clear hm2 hk2 C2 R2
    go_wp2_with fail
    refine P2.out.mono ?_
    rintro r w3 ⟨rfl, hc3, hk3⟩
    have M3 := M2.out.kp hk3 hoM hog
    have F3 := Lib.hid (fill_on M3 hc3 hp hXg (by rw [(prC_same c q 0 l).1]; exact hog) q (by dsimp only; rw [List.length_set]; exact hqm) 1 0 0 0 (by dsimp only; rw [set_getB _ _ _ _ hqm, if_pos rfl]) (by rw [one_wrap]; unfold I64; omega) (by rw [one_wrap]; unfold I64; omega) (by rw [(prC_same c q 0 l).2]; exact hnp))
    have K3 := Lib.hid (K2.out.trans (hk3.mono (fun b hb => HCh.out.inX b hb)))
    have HC3 := Lib.hid hc3
    clear hc3 hk3 M3 d0 d1 d3
    go_wp2_with fail
    refine F3.out.mono ?_
    rintro r w4 ⟨rfl, hm4, hk4⟩
    rw [one_wrap] at hm4
    rw [List.set_set] at hm4
    have M4 := Lib.hid hm4
    have K4 := Lib.hid (K3.out.trans (hk4.mono (fun b hb => by rw [hb]; exact hXg)))
    have C4 := Lib.hid (HC3.out.kp hk4 (fun b hb => by rw [hb]; exact hXg) (fun b hb e => hog (by rw [← e]; rw [(prC_same c q 0 l).1] at hb; exact hb)))
    clear hm4 hk4
    go_wp2
    rw [Exit.noGoto_ret]
    go_ret3
    exact ⟨rfl, M4.out, C4.out, K4.out⟩
end Go.Proofs.YtbfifppdcmimaaaGreat

/-
  A manager's block by its number, and a page of it dropped. Nothing of one statement alone stands here.
-/
namespace Go.Proofs.YtbfifppdcmimaaaGreat
open Go.RowKit Crcm Gcm Go.ChangeShapes

set_option maxRecDepth 100000 in
theorem bblock_no {w : World} {M : Nat} {m : Mg} (h : MgAt w M m) (k : Int) (hk : k < 0 ∨ (m.l.length : Int) ≤ k) : Calls Tryz.prog 107 #[.pointer (some ⟨M, 0, none⟩), .int .i64 k] w fun e w' => e = .returned (.pointer none) ∧ w = w' := by
  obtain ⟨-, c1, -, -, -⟩ := h.cells
  clear h
  generalize m.l.length = n at *
  by_cases h0 : k < 0
  · have t0 : decide (k < 0) = true := decide_eq_true h0
    go_enter Tryz.func107, Tryz.ntmps107
    go_wp2
    go_ret
    exact ⟨rfl, rfl⟩
  · have t0 : decide (k < 0) = false := decide_eq_false h0
    have t1 : decide ((n : Int) ≤ k) = true := decide_eq_true (by omega)
    go_enter Tryz.func107, Tryz.ntmps107
    go_wp2
    go_ret
    exact ⟨rfl, rfl⟩
set_option maxRecDepth 100000 in
theorem bblock_yes {w : World} {M : Nat} {m : Mg} (h : MgAt w M m) (k : Nat) (hk : k < m.l.length) : Calls Tryz.prog 107 #[.pointer (some ⟨M, 0, none⟩), .int .i64 k] w fun e w' => e = .returned (.pointer (some ⟨m.g, k * 4, none⟩)) ∧ w = w' := by
  obtain ⟨-, c1, -, -, -⟩ := h.cells
  have hs := h.small
  clear h
  generalize m.l.length = n at *
  have t0 : decide ((k : Int) < 0) = false := decide_eq_false (by omega)
  have t1 : decide ((n : Int) ≤ (k : Int)) = false := decide_eq_false (by omega)
  go_enter Tryz.func107, Tryz.ntmps107
  go_wp2
  go_ret
  exact ⟨rfl, rfl⟩

set_option maxRecDepth 100000 in
theorem drop_no {w : World} {M : Nat} {m : Mg} (h : MgAt w M m) (k : Int) (hk : (k < 0 ∨ (m.l.length : Int) ≤ k) ∨ ∃ q : Nat, k = q ∧ q < m.l.length ∧ m.l[q]!.lv = 0) : Calls Tryz.prog 70 #[.pointer (some ⟨M, 0, none⟩), .int .i64 k] w fun e w' => e = .returned (.int .i64 1) ∧ w = w' := by
  rcases hk with hk | ⟨q, rfl, hq, h0⟩
  · have H := Lib.hid (bblock_no h k hk)
    clear h hk
    go_enter Tryz.func70, Tryz.ntmps70
    go_wp2_with fail
    refine H.out.mono ?_
    rintro r w' ⟨rfl, rfl⟩
    go_wp2
    go_ret
    exact ⟨rfl, rfl⟩
  · have H := Lib.hid (bblock_yes h q hq)
    have e1 := (h.own.at q hq).2.1
    rw [h0] at e1
    clear h
    go_enter Tryz.func70, Tryz.ntmps70
    go_wp2_with fail
    refine H.out.mono ?_
    rintro r w' ⟨rfl, rfl⟩
    go_wp2
    go_ret
    exact ⟨rfl, rfl⟩

/-- a block, one page of it dropped -/
def dropB (st lv wr nx : Int) : Bk := if (st == 2) = true ∧ (wrap64 (lv - 1) == 0) = true then ⟨3, wrap64 (lv - 1), wr, nx⟩ else ⟨st, wrap64 (lv - 1), wr, nx⟩

set_option maxRecDepth 100000 in
set_option maxHeartbeats 1000000 in
theorem drop_yes {w : World} {M : Nat} {m : Mg} (h : MgAt w M m) (q : Nat) (hq : q < m.l.length) (st lv wr nx : Int) (hy : m.l[q]! = ⟨st, lv, wr, nx⟩) (h0 : (lv == 0) = false) (hlv : I64 (wrap64 (lv - 1))) : Calls Tryz.prog 70 #[.pointer (some ⟨M, 0, none⟩), .int .i64 q] w fun e w' => e = .returned (.int .i64 0) ∧ MgAt w' M { m with l := m.l.set q (dropB st lv wr nx) } ∧ Kp (fun b => b = m.g) w w' := by
  have H := Lib.hid (bblock_yes h q hq)
  obtain ⟨e0, e1, -, -⟩ := h.own.at q hq
  have f0 := h.own.frozen (q * 4)
  have f1 := h.own.frozen (q * 4 + 1)
  have P1 := h.putf q 1 hq (by omega) _ hlv
  have P2 := P1.putf q 0 (by rw [List.length_set]; exact hq) (by omega) 3 (by unfold I64; omega)
  dsimp only at P2
  rw [set_getB _ _ _ _ hq, if_pos rfl, List.set_set] at P2
  rw [hy] at e0 e1 P1 P2
  have M1 := Lib.hid P1
  have M2 := Lib.hid P2
  have K1 := Lib.hid ((Kp.refl (fun b => b = m.g) w).setCell (p := ⟨m.g, q * 4 + 1, none⟩) (.inl rfl) (.int .i64 (wrap64 (lv - 1))))
  have K2 := Lib.hid (((Kp.refl (fun b => b = m.g) w).setCell (p := ⟨m.g, q * 4 + 1, none⟩) (.inl rfl) (.int .i64 (wrap64 (lv - 1)))).setCell (p := ⟨m.g, q * 4, none⟩) (.inl rfl) (.int .i64 3))
  clear h hy hlv P1 P2
  dsimp only at e0 e1
  cases hs : st == 2 with
  | false =>
    have HD : Hid (dropB st lv wr nx = ⟨st, wrap64 (lv - 1), wr, nx⟩) := Lib.hid (by unfold dropB; rw [if_neg (by rw [hs]; simp)])
    go_enter Tryz.func70, Tryz.ntmps70
    go_wp2_with fail
    refine H.out.mono ?_
    rintro r w' ⟨rfl, rfl⟩
    go_wp2
    go_ret
    exact ⟨rfl, by rw [HD.out]; exact M1.out, K1.out⟩
  | true =>
    cases hz : wrap64 (lv - 1) == 0 with
    | false =>
      have HD : Hid (dropB st lv wr nx = ⟨st, wrap64 (lv - 1), wr, nx⟩) := Lib.hid (by unfold dropB; rw [if_neg (by rw [hz]; simp)])
      go_enter Tryz.func70, Tryz.ntmps70
      go_wp2_with fail
      refine H.out.mono ?_
      rintro r w' ⟨rfl, rfl⟩
      go_wp2
      go_ret
      exact ⟨rfl, by rw [HD.out]; exact M1.out, K1.out⟩
    | true =>
      have HD : Hid (dropB st lv wr nx = ⟨3, wrap64 (lv - 1), wr, nx⟩) := Lib.hid (by unfold dropB; rw [if_pos ⟨hs, hz⟩])
      go_enter Tryz.func70, Tryz.ntmps70
      go_wp2_with fail
      refine H.out.mono ?_
      rintro r w' ⟨rfl, rfl⟩
      go_wp2
      go_ret
      exact ⟨rfl, by rw [HD.out]; exact M2.out, K2.out⟩
end Go.Proofs.YtbfifppdcmimaaaGreat

/-
  A manager's block closed. Nothing of one statement alone stands here.
-/
namespace Go.Proofs.YtbfifppdcmimaaaGreat
open Go.RowKit Crcm Gcm Go.ChangeShapes

/-- a block, closed -/
def closeB (_st lv wr nx : Int) : Bk := if 0 < lv then ⟨2, lv, wr, nx⟩ else ⟨3, lv, wr, nx⟩

set_option maxRecDepth 100000 in
set_option maxHeartbeats 1000000 in
theorem close_any {w : World} {M : Nat} {m : Mg} (h : MgAt w M m) (q : Nat) (hq : q < m.l.length) (st lv wr nx : Int) (hy : m.l[q]! = ⟨st, lv, wr, nx⟩) : Calls Tryz.prog 138 #[.pointer (some ⟨M, 0, none⟩), .int .i64 q] w fun e w' => e = .returned (.tuple #[]) ∧ MgAt w' M { m with l := m.l.set q (closeB st lv wr nx) } ∧ Kp (fun b => b = m.g) w w' := by
  obtain ⟨-, c1, -, -, -⟩ := h.cells
  obtain ⟨e0, e1, -, -⟩ := h.own.at q hq
  have f0 := h.own.frozen (q * 4)
  have P1 := h.putf q 0 hq (by omega) 3 (by unfold I64; omega)
  have P2 := P1.putf q 0 (by rw [List.length_set]; exact hq) (by omega) 2 (by unfold I64; omega)
  dsimp only at P2
  rw [set_getB _ _ _ _ hq, if_pos rfl, List.set_set] at P2
  rw [hy] at e0 e1 P1 P2
  have M1 := Lib.hid P1
  have M2 := Lib.hid P2
  have K1 := Lib.hid ((Kp.refl (fun b => b = m.g) w).setCell (p := ⟨m.g, q * 4, none⟩) (.inl rfl) (.int .i64 3))
  have K2 := Lib.hid (((Kp.refl (fun b => b = m.g) w).setCell (p := ⟨m.g, q * 4, none⟩) (.inl rfl) (.int .i64 3)).setCell (p := ⟨m.g, q * 4, none⟩) (.inl rfl) (.int .i64 2))
  clear h hy P1 P2
  dsimp only at e0 e1
  by_cases hz : 0 < lv
  · have HD : Hid (closeB st lv wr nx = ⟨2, lv, wr, nx⟩) := Lib.hid (by unfold closeB; rw [if_pos hz])
    have t0 : decide (0 < lv) = true := decide_eq_true hz
    go_enter Tryz.func138, Tryz.ntmps138
    go_wp2
    go_end0
    exact ⟨rfl, by rw [HD.out]; exact M2.out, K2.out⟩
  · have HD : Hid (closeB st lv wr nx = ⟨3, lv, wr, nx⟩) := Lib.hid (by unfold closeB; rw [if_neg hz])
    have t0 : decide (0 < lv) = false := decide_eq_false hz
    go_enter Tryz.func138, Tryz.ntmps138
    go_wp2
    go_end0
    exact ⟨rfl, by rw [HD.out]; exact M1.out, K1.out⟩
/-- the blocks of memory that a manager's calls turn: the chip's, and the row of its own -/
def Fm (o : Own) (n g b : Nat) : Prop := o.F n b ∨ b = g
set_option maxRecDepth 100000 in
set_option maxHeartbeats 1000000 in
theorem bmark_any {w : World} {X : Nat → Prop} {M : Nat} {m : Mg} {o : Own} {c : Ch} (h : MgAt w M m) (hc : ChAt w X o c) (hp : m.cp = o.p) (hXg : X m.g) (hoM : ¬ o.F c.nb M) (hog : ¬ o.F c.nb m.g) (q : Nat) (hq : q < m.l.length) (hk : reE c q = 0) :
    Calls Tryz.prog 148 #[.pointer (some ⟨M, 0, none⟩), .int .i64 q] w fun e w' => e = .returned (.tuple #[]) ∧ MgAt w' M { m with l := m.l.set q ⟨4, 0, 0, 0⟩ } ∧ ChAt w' X o { c with bad := up1 c.bad q true } ∧ Kp (Fm o c.nb m.g) w w' := by
  obtain ⟨c0, -, -, -, -⟩ := h.cells
  rw [hp] at c0
  have HMk := Lib.hid (mark_yes hc q hk)
  have HH := Lib.hid h
  clear h hc hp hk
  unfold Own.p at c0 HMk
  go_enter Tryz.func148, Tryz.ntmps148
  go_wp2_with fail
  refine HMk.out.mono ?_
  rintro r w1 ⟨rfl, hc1, hk1⟩
  have M1 := HH.out.kp hk1 hoM hog
  obtain ⟨-, d1, -, -, -⟩ := M1.cells
  obtain ⟨e0, e1, e2, e3⟩ := M1.own.at q hq
  have f0 := M1.own.frozen (q * 4)
  have f1 := M1.own.frozen (q * 4 + 1)
  have f2 := M1.own.frozen (q * 4 + 2)
  have f3 := M1.own.frozen (q * 4 + 3)
  have P := Lib.hid (M1.put4 q hq ⟨4, 0, 0, 0⟩ (by unfold Bw I64; simp))
  have K := Lib.hid (((((Kp.refl (fun b => b = m.g) w1).setCell (p := ⟨m.g, q * 4, none⟩) (.inl rfl) (.int .i64 4)).setCell (p := ⟨m.g, q * 4 + 1, none⟩) (.inl rfl) (.int .i64 0)).setCell (p := ⟨m.g, q * 4 + 2, none⟩) (.inl rfl) (.int .i64 0)).setCell (p := ⟨m.g, q * 4 + 3, none⟩) (.inl rfl) (.int .i64 0))
  have C2 := Lib.hid (hc1.kp K.out (fun b hb => by rw [hb]; exact hXg) (fun b hb e => hog (by rw [← e]; exact hb)))
  have K2 := Lib.hid ((hk1.mono (fun b hb => show Fm o c.nb m.g b from .inl hb)).trans (K.out.mono (fun b hb => show Fm o c.nb m.g b from .inr hb)))
  clear M1 hc1 hk1 c0
  generalize m.l[q]!.st = y0 at e0
  generalize m.l[q]!.lv = y1 at e1
  generalize m.l[q]!.wr = y2 at e2
  generalize m.l[q]!.nx = y3 at e3
  go_wp2
  go_end0
  exact ⟨rfl, P.out, C2.out, K2.out⟩
end Go.Proofs.YtbfifppdcmimaaaGreat

/-
  A manager's block in which nothing is needed: asked for, and retired. Nothing of one statement alone stands here.
-/
namespace Go.Proofs.YtbfifppdcmimaaaGreat
open Go.RowKit Crcm Gcm Go.ChangeShapes

set_option maxRecDepth 100000 in
theorem bup_any {w : World} {X : Nat → Prop} {M : Nat} {m : Mg} {o : Own} {c : Ch} (h : MgAt w M m) (hc : ChAt w X o c) (hp : m.cp = o.p) : Calls Tryz.prog 134 #[.pointer (some ⟨M, 0, none⟩)] w fun e w' => e = .returned (.int .i64 (if c.up = true then 0 else 4)) ∧ w = w' := by
  cases hu : c.up with
  | true => exact bup_yes h hc hp hu
  | false =>
    obtain ⟨c0, -, -, -, -⟩ := h.cells
    rw [hp] at c0
    have HU := Lib.hid (up_any hc)
    rw [hu] at HU
    clear h hc hp hu
    unfold Own.p at *
    go_enter Tryz.func134, Tryz.ntmps134
    go_wp2_with fail
    refine HU.out.mono ?_
    rintro r w' ⟨rfl, rfl⟩
    go_wp2
    go_ret
    exact ⟨rfl, rfl⟩

/-- what is answered of a block in which nothing may be needed -/
def ndE (up : Bool) (l : List Bk) (k : Int) : Int := if up = true then (if k < 0 ∨ (l.length : Int) ≤ k ∨ l[k.toNat]!.st = 4 ∨ 0 < l[k.toNat]!.lv then 1 else 0) else 4
def ndP (g : Nat) (k x : Int) : Value := if x = 0 then .pointer (some ⟨g, k.toNat * 4, none⟩) else .pointer none

set_option maxRecDepth 100000 in
set_option maxHeartbeats 1000000 in
theorem needless_any {w : World} {X : Nat → Prop} {M : Nat} {m : Mg} {o : Own} {c : Ch} (h : MgAt w M m) (hc : ChAt w X o c) (hp : m.cp = o.p) (k : Int) : Calls Tryz.prog 147 #[.pointer (some ⟨M, 0, none⟩), .int .i64 k] w fun e w' => e = .returned (.tuple #[ndP m.g k (ndE c.up m.l k), .int .i64 (ndE c.up m.l k)]) ∧ w = w' := by
  have HU := Lib.hid (bup_any h hc hp)
  cases hu : c.up with
  | false =>
    rw [hu, if_neg (by simp)] at HU
    have HE : Hid (ndE false m.l k = 4) := Lib.hid (by unfold ndE; rw [if_neg (by simp)])
    clear h hc hp hu
    go_enter Tryz.func147, Tryz.ntmps147
    go_wp2_with fail
    refine HU.out.mono ?_
    rintro r w' ⟨rfl, rfl⟩
    go_wp2
    go_ret2
    exact ⟨by rw [HE.out]; rfl, rfl⟩
  | true =>
    rw [hu, if_pos rfl] at HU
    by_cases hk : k < 0 ∨ (m.l.length : Int) ≤ k
    · have HE : Hid (ndE true m.l k = 1) := Lib.hid (by unfold ndE; rw [if_pos rfl, if_pos (by rcases hk with g | g; exact .inl g; exact .inr (.inl g))])
      have HB := Lib.hid (bblock_no h k hk)
      clear h hc hp hu hk
      go_enter Tryz.func147, Tryz.ntmps147
      go_wp2_with fail
      refine HU.out.mono ?_
      rintro r w' ⟨rfl, rfl⟩
      go_wp2_with fail
      refine HB.out.mono ?_
      rintro r w' ⟨rfl, rfl⟩
      go_wp2
      go_ret2
      exact ⟨by rw [HE.out]; rfl, rfl⟩
    · obtain ⟨q, rfl⟩ : ∃ q : Nat, k = q := ⟨k.toNat, by omega⟩
      have hq : q < m.l.length := by omega
      have HB := Lib.hid (bblock_yes h q hq)
      obtain ⟨e0, e1, -, -⟩ := h.own.at q hq
      have HE : Hid (ndE true m.l (q : Int) = if m.l[q]!.st = 4 ∨ 0 < m.l[q]!.lv then 1 else 0) := Lib.hid (by
        unfold ndE
        rw [if_pos rfl, Int.toNat_natCast]
        by_cases g : m.l[q]!.st = 4 ∨ 0 < m.l[q]!.lv
        · rw [if_pos g, if_pos (.inr (.inr g))]
        · rw [if_neg g, if_neg (by rintro (g1 | g1 | g1); omega; omega; exact g g1)])
      generalize m.l[q]!.st = st at e0 HE
      generalize m.l[q]!.lv = lv at e1 HE
      clear h hc hp hu hk hq
      by_cases g0 : st = 4
      · subst g0
        rw [if_pos (.inl rfl)] at HE
        go_enter Tryz.func147, Tryz.ntmps147
        go_wp2_with fail
        refine HU.out.mono ?_
        rintro r w' ⟨rfl, rfl⟩
        go_wp2_with fail
        refine HB.out.mono ?_
        rintro r w' ⟨rfl, rfl⟩
        go_wp2
        go_ret2
        exact ⟨by rw [HE.out]; rfl, rfl⟩
      · have t0 : (st == 4) = false := by simpa using g0
        by_cases g1 : 0 < lv
        · rw [if_pos (.inr g1)] at HE
          have t1 : decide (0 < lv) = true := decide_eq_true g1
          clear g0
          go_enter Tryz.func147, Tryz.ntmps147
          go_wp2_with fail
          refine HU.out.mono ?_
          rintro r w' ⟨rfl, rfl⟩
          go_wp2_with fail
          refine HB.out.mono ?_
          rintro r w' ⟨rfl, rfl⟩
          go_wp2
          go_ret2
          exact ⟨by rw [HE.out]; rfl, rfl⟩
        · rw [if_neg (by rintro (g | g); exact g0 g; exact g1 g)] at HE
          have t1 : decide (0 < lv) = false := decide_eq_false g1
          clear g0
          go_enter Tryz.func147, Tryz.ntmps147
          go_wp2_with fail
          refine HU.out.mono ?_
          rintro r w' ⟨rfl, rfl⟩
          go_wp2_with fail
          refine HB.out.mono ?_
          rintro r w' ⟨rfl, rfl⟩
          go_wp2
          go_ret2
          exact ⟨by rw [HE.out]; rfl, rfl⟩
end Go.Proofs.YtbfifppdcmimaaaGreat
