/-
  A manager's open block whatever it is, and a block filled by a page, whatever comes of it; the chip's calls each told by one contract. Nothing of one statement alone stands here.
-/
import Derived.Test.YtbfifppdcmimaaaGreatKM
namespace Gcm
open Go Go.RowKit
/-- the first open block of a row; its length: there is none -/
def fop (l : List Bk) : Nat := l.findIdx (fun y => y.st == 1)
theorem fop_at {l : List Bk} {k : Nat} (h : k < l.length) (h1 : (l[k]!.st == 1) = true) (h2 : ∀ j, j < k → (l[j]!.st == 1) = false) : fop l = k := by
  unfold fop
  rw [List.findIdx_eq h]
  refine ⟨by rw [getElem!_pos l k h] at h1; exact h1, fun j hj => ?_⟩
  have := h2 j hj
  rw [getElem!_pos l j (by omega)] at this
  exact this
theorem fop_none {l : List Bk} (h : ∀ j, j < l.length → (l[j]!.st == 1) = false) : fop l = l.length := by
  unfold fop
  rw [List.findIdx_eq_length]
  intro x hx
  obtain ⟨j, hj, rfl⟩ := List.getElem_of_mem hx
  have := h j hj
  rw [getElem!_pos l j hj] at this
  exact this
theorem fop_cases (l : List Bk) : (∃ k, k < l.length ∧ (l[k]!.st == 1) = true ∧ (∀ j, j < k → (l[j]!.st == 1) = false) ∧ fop l = k) ∨ ((∀ j, j < l.length → (l[j]!.st == 1) = false) ∧ fop l = l.length) := by
  by_cases h : ∀ j, j < l.length → (l[j]!.st == 1) = false
  · exact .inr ⟨h, fop_none h⟩
  · left
    have h2 : ∃ j, j < l.length ∧ (l[j]!.st == 1) = true := by
      apply Classical.byContradiction
      intro g
      refine h fun j hj => ?_
      cases hs : l[j]!.st == 1 with
      | false => rfl
      | true => exact absurd ⟨j, hj, hs⟩ g
    have h3 : fop l < l.length := by
      obtain ⟨j, hj, hs⟩ := h2
      unfold fop
      rw [List.findIdx_lt_length]
      exact ⟨l[j], List.getElem_mem hj, by rw [getElem!_pos l j hj] at hs; exact hs⟩
    have h4 : (l[fop l]!.st == 1) = true := by
      rw [getElem!_pos l _ h3]
      exact List.findIdx_getElem (p := fun y : Bk => y.st == 1) (w := h3)
    refine ⟨fop l, h3, h4, fun j hj => ?_, rfl⟩
    have := List.not_of_lt_findIdx (p := fun y : Bk => y.st == 1) (xs := l) (i := j) hj
    rw [getElem!_pos l j (by omega)]
    cases hs : l[j].st == 1 with
    | false => rfl
    | true => exact absurd hs (by simpa using this)
/-- the open block, and the row behind it: a free one is opened if there is none -/
def obI (f : Nat → Int) (l : List Bk) : Int × List Bk := if fop l < l.length then ((fop l : Int), l) else if ob f l l.length < 0 then (-1, l) else (ob f l l.length, l.set (ob f l l.length).toNat ⟨1, 0, 0, 0⟩)
/-- a block, one page more programmed in it -/
def fillB (np : Int) (y : Bk) : Bk := ⟨if wrap64 (y.nx + 1) = np then 2 else y.st, wrap64 (y.lv + 1), y.wr, wrap64 (y.nx + 1)⟩
end Gcm
namespace Go.Proofs.YtbfifppdcmimaaaGreat
open Go.RowKit Crcm Gcm Go.ChangeShapes

theorem i64_wrap (x : Int) : I64 (wrap64 x) := by unfold I64 wrap64; omega
theorem fillB_bw {np : Int} {y : Bk} (h : Bw y) : Bw (fillB np y) := by
  obtain ⟨h0, h1, h2, h3⟩ := h
  refine ⟨?_, i64_wrap _, h2, i64_wrap _⟩
  unfold fillB
  dsimp only
  split
  · unfold I64; omega
  · exact h0

set_option maxRecDepth 100000 in
set_option maxHeartbeats 2000000 in
theorem openBlock_at {w : World} {X : Nat → Prop} {M : Nat} {m : Mg} {o : Own} {c : Ch} (h : MgAt w M m) (hc : ChAt w X o c) (hp : m.cp = o.p) (hn : m.l.length = c.nb) (q : Nat) (hq : q < c.nb) (h1 : (m.l[q]!.st == 1) = true) (hno : ∀ j, j < q → (m.l[j]!.st == 1) = false) :
    Calls Tryz.prog 135 #[.pointer (some ⟨M, 0, none⟩)] w fun e w' => e = .returned (.int .i64 q) ∧ Below w.heap.size w w' := by
  obtain ⟨c0, c1, -, -, -⟩ := h.cells
  rw [hp] at c0
  rw [hn] at c1
  have HH := Lib.hid h
  have hM := h.blk.lt
  have HW := Lib.hid (fun W (hb : Below w.heap.size w W) k (hk : k < c.nb) => wear_ptr (hc.below hb) k hk)
  have hnb := hc.good.2.1
  have HN := Lib.hid hn
  have HNo := Lib.hid hno
  have H1 := Lib.hid h1
  have HM := Lib.hid hM
  clear h hc hp hn hno hM h1
  unfold Own.p at c0
  generalize c.wear = f at HW
  generalize hcn : c.nb = n at *
  clear hcn
  go_enter Tryz.func135, Tryz.ntmps135
  go_wp2_with fail
  go_loopw [3, 11] (fun fr i wr => ∃ k : Nat, k ≤ q ∧ i = .int .i64 k ∧ fr = .int .i64 (ob f m.l k) ∧ Hid (Below w.heap.size w wr)) (fun _ i _ => n - (intOf i).toNat)
  case atStart => exact ⟨0, by omega, rfl, rfl, Lib.hid (Below.refl _ _)⟩
  case round =>
    obtain ⟨k, hk, rfl, rfl, E⟩ := hrel
    have hlt : k < n := by omega
    have hkl : k < m.l.length := by rw [HN.out]; exact hlt
    obtain ⟨e0, e1, e2, e3⟩ := at_below (HH.out.own.at k hkl) E.out
    have d0 := (E.out.cell (p := ⟨M, 0, none⟩) HM.out).trans c0
    have hlt' : (k : Int) < (n : Int) := by omega
    by_cases hkq : k = q
    · have hn1 := H1.out
      rw [← hkq] at hn1
      generalize m.l[k]!.st = st at e0 hn1
      generalize m.l[k]!.lv = lv at e1
      generalize m.l[k]!.wr = wr' at e2
      generalize m.l[k]!.nx = nx at e3
      have HB := Lib.hid (E.out.alloc E.out.size (.cells #[.int .i64 st, .int .i64 lv, .int .i64 wr', .int .i64 nx] 144))
      have HQ := Lib.hid hkq
      clear E hkq hkl d0
      go_wp2
      go_ret
      exact ⟨by obtain rfl := HQ.out; rfl, HB.out⟩
    · have hn1 := HNo.out k (by omega)
      obtain ⟨y, hy⟩ : ∃ y, m.l[k]! = y := ⟨_, rfl⟩
      rw [hy] at e0 e1 e2 e3 hn1
      have HR := Lib.hid (ob_at (f := f) hy)
      have hbd := ob_lt f m.l k
      have HB := Lib.hid (E.out.alloc E.out.size (.cells #[.int .i64 y.st, .int .i64 y.lv, .int .i64 y.wr, .int .i64 y.nx] 144))
      have hkq2 : k + 1 ≤ q := by omega
      clear hy hkl E hkq
      obtain ⟨st, lv, wr', nx⟩ := y
      dsimp only at HR HB e0 e1 e2 e3 hn1
      have d0' := cell_alloc d0 (.cells #[.int .i64 st, .int .i64 lv, .int .i64 wr', .int .i64 nx] 144)
      generalize ob f m.l k = s at HR hbd ⊢
      cases hs0 : st == 0 with
      | false =>
        rw [if_neg (by rw [hs0]; exact Bool.false_ne_true)] at HR
        go_wp2
        go_roundw
        case rel => exact ⟨k + 1, by omega, by go_num, by rw [HR.out], HB⟩
        case measure => simp [intOf]; omega
      | true =>
        rw [if_pos hs0] at HR
        by_cases h0 : s < 0
        · rw [if_pos (.inl h0)] at HR
          have t0 : decide (s < 0) = true := decide_eq_true h0
          clear d0 d0'
          go_wp2_with fail
          refine wp_region_later (by kernel_rfl) (by kernel_rfl) ?_
          repeat (go_big_quiet_step (fail))
          refine wpQuiet_nil ?_
          rintro _ ⟨m', rfl⟩
          go_wp2
          go_roundw
          case rel => exact ⟨k + 1, by omega, by go_num, by rw [HR.out], Lib.hid (HB.out.trans (m'.bel.mono HB.out.size))⟩
          case measure => simp [intOf]; omega
        · obtain ⟨p, rfl⟩ : ∃ p : Nat, s = p := ⟨s.toNat, by omega⟩
          rw [Int.toNat_natCast] at HR
          have t0 : decide ((p : Int) < 0) = false := decide_eq_false h0
          have f0 := fun m' : Later (wr.alloc (.cells #[.int .i64 st, .int .i64 lv, .int .i64 wr', .int .i64 nx] 144)) => m'.cell d0'
          have W1 := Lib.hid (fun m' : Later (wr.alloc (.cells #[.int .i64 st, .int .i64 lv, .int .i64 wr', .int .i64 nx] 144)) => later_same (HW.out m'.to (HB.out.trans (m'.bel.mono HB.out.size)) k hlt))
          have W2 := Lib.hid (fun m' : Later (wr.alloc (.cells #[.int .i64 st, .int .i64 lv, .int .i64 wr', .int .i64 nx] 144)) => later_same (HW.out m'.to (HB.out.trans (m'.bel.mono HB.out.size)) p (by omega)))
          clear d0 d0'
          generalize f k = x1 at HR W1
          generalize f p = x2 at HR W2
          by_cases h1 : x1 < x2
          · rw [if_pos (.inr h1)] at HR
            have t1 : decide (x1 < x2) = true := decide_eq_true h1
            go_wp2_with fail
            refine wp_region_later (by kernel_rfl) (by kernel_rfl) ?_
            repeat (go_big_quiet_step (with_reducible first | exact W1.out _ | exact W2.out _))
            refine wpQuiet_nil ?_
            rintro _ ⟨m', rfl⟩
            go_wp2
            go_roundw
            case rel => exact ⟨k + 1, by omega, by go_num, by rw [HR.out], Lib.hid (HB.out.trans (m'.bel.mono HB.out.size))⟩
            case measure => simp [intOf]; omega
          · rw [if_neg (by omega)] at HR
            have t1 : decide (x1 < x2) = false := decide_eq_false h1
            go_wp2_with fail
            refine wp_region_later (by kernel_rfl) (by kernel_rfl) ?_
            repeat (go_big_quiet_step (with_reducible first | exact W1.out _ | exact W2.out _))
            refine wpQuiet_nil ?_
            rintro _ ⟨m', rfl⟩
            go_wp2
            go_roundw
            case rel => exact ⟨k + 1, by omega, by go_num, by rw [HR.out], Lib.hid (HB.out.trans (m'.bel.mono HB.out.size))⟩
            case measure => simp [intOf]; omega

set_option maxRecDepth 100000 in
set_option maxHeartbeats 2000000 in
theorem openBlock_full {w : World} {X : Nat → Prop} {M : Nat} {m : Mg} {o : Own} {c : Ch} (h : MgAt w M m) (hc : ChAt w X o c) (hn : m.l.length = c.nb) (hno : ∀ j, j < c.nb → (m.l[j]!.st == 1) = false) (hob : ob c.wear m.l c.nb < 0) :
    Calls Tryz.prog 135 #[.pointer (some ⟨M, 0, none⟩)] w fun e w' => e = .returned (.int .i64 (-1)) ∧ Below w.heap.size w w' := by
  obtain ⟨-, c1, -, -, -⟩ := h.cells
  rw [hn] at c1
  have HH := Lib.hid h
  have hM := h.blk.lt
  have hnb := hc.good.2.1
  have HN := Lib.hid hn
  have HNo := Lib.hid hno
  have HM := Lib.hid hM
  have hz : ∀ k, k ≤ c.nb → (∀ j, j < k → (m.l[j]!.st == 0) = false) ∨ 0 ≤ ob c.wear m.l k := by
    intro k
    induction k with
    | zero => intro _; exact .inl fun j hj => by omega
    | succ k ih =>
      intro hk
      rcases ih (by omega) with g | g
      · cases hs : m.l[k]!.st == 0 with
        | false =>
          left
          intro j hj
          by_cases e : j = k
          · subst e; exact hs
          · exact g j (by omega)
        | true =>
          right
          rw [ob, if_pos hs]
          split
          · omega
          · omega
      · right
        rw [ob]
        split
        · split
          · omega
          · exact g
        · exact g
  have hfr : ∀ j, j < c.nb → (m.l[j]!.st == 0) = false := (hz c.nb (Nat.le_refl _)).resolve_right (by omega)
  have HFr := Lib.hid hfr
  clear h hc hn hno hM hz hfr hob
  generalize hcn : c.nb = n at *
  clear hcn
  go_enter Tryz.func135, Tryz.ntmps135
  go_wp2_with fail
  go_loopw [3, 11] (fun fr i wr => ∃ k : Nat, k ≤ n ∧ i = .int .i64 k ∧ fr = .int .i64 (-1) ∧ Hid (Below w.heap.size w wr)) (fun _ i _ => n - (intOf i).toNat)
  case atStart => exact ⟨0, by omega, rfl, rfl, Lib.hid (Below.refl _ _)⟩
  case round =>
    obtain ⟨k, hk, rfl, rfl, E⟩ := hrel
    by_cases hlt : k < n
    · have hkl : k < m.l.length := by rw [HN.out]; exact hlt
      obtain ⟨e0, e1, e2, e3⟩ := at_below (HH.out.own.at k hkl) E.out
      have hs1 := HNo.out k hlt
      have hs0 := HFr.out k hlt
      generalize m.l[k]!.st = st at e0 hs1 hs0
      generalize m.l[k]!.lv = lv at e1
      generalize m.l[k]!.wr = wr' at e2
      generalize m.l[k]!.nx = nx at e3
      have HB := Lib.hid (E.out.alloc E.out.size (.cells #[.int .i64 st, .int .i64 lv, .int .i64 wr', .int .i64 nx] 144))
      clear E hkl
      go_wp2
      go_roundw
      case rel => exact ⟨k + 1, by omega, by go_num, rfl, HB⟩
      case measure => simp [intOf]; omega
    · have : k = n := by omega
      subst this
      go_wp2
      go_ret
      exact ⟨rfl, E.out⟩

theorem openBlock_any {w : World} {X : Nat → Prop} {M : Nat} {m : Mg} {o : Own} {c : Ch} (h : MgAt w M m) (hc : ChAt w X o c) (hp : m.cp = o.p) (hn : m.l.length = c.nb) :
    Calls Tryz.prog 135 #[.pointer (some ⟨M, 0, none⟩)] w fun e w' => e = .returned (.int .i64 (obI c.wear m.l).1) ∧ MgAt w' M { m with l := (obI c.wear m.l).2 } ∧ Kp (fun b => b = m.g) w w' := by
  rcases fop_cases m.l with ⟨k, hk, h1, h2, h3⟩ | ⟨h1, h2⟩
  · have e : obI c.wear m.l = ((k : Int), m.l) := by unfold obI; rw [h3, if_pos hk]
    rw [e]
    refine (openBlock_at h hc hp hn k (by omega) h1 h2).mono ?_
    rintro r w' ⟨rfl, hb⟩
    exact ⟨rfl, h.below hb, Kp.of_below hb⟩
  · by_cases g : ob c.wear m.l m.l.length < 0
    · have e : obI c.wear m.l = (-1, m.l) := by unfold obI; rw [h2, if_neg (Nat.lt_irrefl _), if_pos g]
      rw [e]
      refine (openBlock_full h hc hn (by rw [← hn]; exact h1) (by rw [← hn]; exact g)).mono ?_
      rintro r w' ⟨rfl, hb⟩
      exact ⟨rfl, h.below hb, Kp.of_below hb⟩
    · obtain ⟨q, hq⟩ : ∃ q : Nat, ob c.wear m.l m.l.length = q := ⟨(ob c.wear m.l m.l.length).toNat, by omega⟩
      have e : obI c.wear m.l = ((q : Int), m.l.set q ⟨1, 0, 0, 0⟩) := by unfold obI; rw [h2, if_neg (Nat.lt_irrefl _), if_neg g, hq, Int.toNat_natCast]
      rw [e]
      exact openBlock_new h hc hp hn (by rw [← hn]; exact h1) q (by rw [← hn]; exact hq)

set_option maxRecDepth 100000 in
set_option maxHeartbeats 1000000 in
theorem fill_full {w : World} {X : Nat → Prop} {M : Nat} {m : Mg} {o : Own} {c : Ch} (h : MgAt w M m) (hc : ChAt w X o c) (hp : m.cp = o.p) (hX : X m.g) (ho : ¬ o.F c.nb m.g) (k : Nat) (hk : k < m.l.length) (st lv wr nx : Int) (hy : m.l[k]! = ⟨st, lv, wr, nx⟩) (hlv : I64 (wrap64 (lv + 1))) (hnx : I64 (wrap64 (nx + 1))) (hne : wrap64 (nx + 1) = c.np) :
    Calls Tryz.prog 137 #[.pointer (some ⟨M, 0, none⟩), .int .i64 k] w fun e w' => e = .returned (.tuple #[]) ∧ MgAt w' M { m with l := m.l.set k ⟨2, wrap64 (lv + 1), wr, wrap64 (nx + 1)⟩ } ∧ Kp (fun b => b = m.g) w w' := by
  obtain ⟨c0, c1, -, -, -⟩ := h.cells
  rw [hp] at c0
  obtain ⟨e0, e1, e2, e3⟩ := h.own.at k hk
  have f1 := h.own.frozen (k * 4 + 1)
  have f3 := h.own.frozen (k * 4 + 3)
  have P1 := h.putf k 3 hk (by omega) _ hnx
  have hs : (m.l.set k (setf m.l[k]! 3 (wrap64 (nx + 1)))).set k (setf (m.l.set k (setf m.l[k]! 3 (wrap64 (nx + 1))))[k]! 1 (wrap64 (lv + 1))) = m.l.set k ⟨st, wrap64 (lv + 1), wr, wrap64 (nx + 1)⟩ := by
    rw [set_getB _ _ _ _ hk, if_pos rfl, List.set_set, hy]
    rfl
  have P2 : Hid (MgAt ((w.setCell ⟨m.g, k * 4 + 3, none⟩ (.int .i64 (wrap64 (nx + 1)))).setCell ⟨m.g, k * 4 + 1, none⟩ (.int .i64 (wrap64 (lv + 1)))) M { m with l := m.l.set k ⟨st, wrap64 (lv + 1), wr, wrap64 (nx + 1)⟩ }) := Lib.hid (by
    have := P1.putf k 1 (by rw [List.length_set]; exact hk) (by omega) _ hlv
    dsimp only at this
    rw [hs] at this
    exact this)
  have HK := Lib.hid (((Kp.refl (fun b => b = m.g) w).setCell (p := ⟨m.g, k * 4 + 3, none⟩) (.inl rfl) (.int .i64 (wrap64 (nx + 1)))).setCell (p := ⟨m.g, k * 4 + 1, none⟩) (.inl rfl) (.int .i64 (wrap64 (lv + 1))))
  have hC2 := hc.kp HK.out (fun b hb => by rw [hb]; exact hX) (fun b hb e => ho (by rw [← e]; exact hb))
  have HG := Lib.hid (fun q : Later ((w.setCell ⟨m.g, k * 4 + 3, none⟩ (.int .i64 (wrap64 (nx + 1)))).setCell ⟨m.g, k * 4 + 1, none⟩ (.int .i64 (wrap64 (lv + 1)))) => later_below (geo_any (hC2.below q.bel)))
  have hMg := h.ne
  have q0 := P2.out.cells.1
  have q3 := (P2.out.own.at k (by simpa using hk)).2.2.2
  dsimp only at q0 q3
  rw [set_getB _ _ _ _ hk, if_pos rfl] at q3
  rw [hp] at q0
  have r0 := fun q : Later ((w.setCell ⟨m.g, k * 4 + 3, none⟩ (.int .i64 (wrap64 (nx + 1)))).setCell ⟨m.g, k * 4 + 1, none⟩ (.int .i64 (wrap64 (lv + 1)))) => q.cell q0
  have r3 := fun q : Later ((w.setCell ⟨m.g, k * 4 + 3, none⟩ (.int .i64 (wrap64 (nx + 1)))).setCell ⟨m.g, k * 4 + 1, none⟩ (.int .i64 (wrap64 (lv + 1)))) => q.cell q3
  rw [hy] at e0 e1 e2 e3
  dsimp only at e0 e1 e2 e3 r3
  have gf := gfield1
  have t0 : (wrap64 (nx + 1) == (c.np : Int)) = true := by simpa using hne
  have HKM := Lib.hid (show k < m.l.length from hk)
  have HFin := Lib.hid (fun (W : World) (hb : Below ((w.setCell ⟨m.g, k * 4 + 3, none⟩ (.int .i64 (wrap64 (nx + 1)))).setCell ⟨m.g, k * 4 + 1, none⟩ (.int .i64 (wrap64 (lv + 1)))).heap.size ((w.setCell ⟨m.g, k * 4 + 3, none⟩ (.int .i64 (wrap64 (nx + 1)))).setCell ⟨m.g, k * 4 + 1, none⟩ (.int .i64 (wrap64 (lv + 1)))) W) => (by
    have hM := P2.out.below hb
    have hk' : k < (m.l.set k ⟨st, wrap64 (lv + 1), wr, wrap64 (nx + 1)⟩).length := by rw [List.length_set]; exact hk
    have f0 := hM.own.frozen (k * 4)
    have d1 := hM.cells.2.1
    have d2 := (hM.own.at k hk').1
    have P := hM.putf k 0 hk' (by omega) 2 (by unfold I64; omega)
    dsimp only at P d2 d1
    rw [List.length_set] at d1
    rw [set_getB _ _ _ _ hk, if_pos rfl, List.set_set] at P
    rw [set_getB _ _ _ _ hk, if_pos rfl] at d2
    exact ⟨P, (HK.out.trans (Kp.of_below hb)).setCell (p := ⟨m.g, k * 4, none⟩) (.inl rfl) (.int .i64 2), d1, d2, f0⟩ :
    MgAt (W.setCell ⟨m.g, k * 4, none⟩ (.int .i64 2)) M { m with l := m.l.set k ⟨2, wrap64 (lv + 1), wr, wrap64 (nx + 1)⟩ } ∧ Kp (fun b => b = m.g) w (W.setCell ⟨m.g, k * 4, none⟩ (.int .i64 2)) ∧ W.cell? ⟨M, 1, none⟩ = some (.slice (some ⟨m.g, 0, none⟩) m.l.length m.cap) ∧ W.cell? ⟨m.g, k * 4, none⟩ = some (.int .i64 st) ∧ W.frozen? ⟨m.g, k * 4, none⟩ = false))
  clear P1 h hc hC2 hX ho hs hy hlv hnx hne q0 q3 hp
  unfold Own.p at *
  go_enter Tryz.func137, Tryz.ntmps137
  go_wp2_with fail
  refine wp_region_later (by kernel_rfl) (by kernel_rfl) ?_
  repeat (go_big_quiet_step (with_reducible first | exact HG.out _))
  refine wpQuiet_nil ?_
  rintro _ ⟨q, rfl⟩
  obtain ⟨z1, z2, z3, z4, z5⟩ := HFin.out q.to q.bel
  have Z1 := Lib.hid z1
  have Z2 := Lib.hid z2
  clear z1 z2
  go_wp2
  go_end0
  exact ⟨rfl, Z1.out, Z2.out⟩
theorem fill_any {w : World} {X : Nat → Prop} {M : Nat} {m : Mg} {o : Own} {c : Ch} (h : MgAt w M m) (hc : ChAt w X o c) (hp : m.cp = o.p) (hX : X m.g) (ho : ¬ o.F c.nb m.g) (k : Nat) (hk : k < m.l.length) :
    Calls Tryz.prog 137 #[.pointer (some ⟨M, 0, none⟩), .int .i64 k] w fun e w' => e = .returned (.tuple #[]) ∧ MgAt w' M { m with l := m.l.set k (fillB c.np m.l[k]!) } ∧ Kp (fun b => b = m.g) w w' := by
  obtain ⟨y, hy⟩ : ∃ y, m.l[k]! = y := ⟨_, rfl⟩
  rw [hy]
  obtain ⟨st, lv, wr, nx⟩ := y
  by_cases g : wrap64 (nx + 1) = c.np
  · have e : fillB c.np ⟨st, lv, wr, nx⟩ = ⟨2, wrap64 (lv + 1), wr, wrap64 (nx + 1)⟩ := by unfold fillB; rw [if_pos g]
    rw [e]
    exact fill_full h hc hp hX ho k hk st lv wr nx hy (i64_wrap _) (i64_wrap _) g
  · have e : fillB c.np ⟨st, lv, wr, nx⟩ = ⟨st, wrap64 (lv + 1), wr, wrap64 (nx + 1)⟩ := by unfold fillB; rw [if_neg g]
    rw [e]
    exact fill_on h hc hp hX ho k hk st lv wr nx hy (i64_wrap _) (i64_wrap _) g
end Go.Proofs.YtbfifppdcmimaaaGreat

/-
  A page programmed by a manager, whatever comes of it. Nothing of one statement alone stands here.
-/
namespace Go.Proofs.YtbfifppdcmimaaaGreat
open Go.RowKit Crcm Gcm Go.ChangeShapes

/-- what a programming of the chip answers, and the chip behind it -/
def pgE (c : Ch) (k p : Int) (m : Nat) : Int := if prE c k p m = 0 then endE (fnd c.fl c.since).kind else prE c k p m
def pgC (c : Ch) (k p : Int) (l : List Int) : Ch := if prE c k p l.length = 0 then prC c k.toNat p.toNat l else c
theorem pgC_same (c : Ch) (k p : Int) (l : List Int) : (pgC c k p l).nb = c.nb ∧ (pgC c k p l).np = c.np := by
  unfold pgC
  split
  · exact prC_same c _ _ l
  · exact ⟨rfl, rfl⟩
theorem cprog_any {w : World} {X : Nat → Prop} {o : Own} {c : Ch} (h : ChAt w X o c) (k p : Int) (a : Option Addr) (cap : Nat) (l : List Int) (hr : RwX w X a l) (m : Nat) (hl : l.length = m) :
    Calls Tryz.prog 136 #[o.p, .int .i64 k, .int .i64 p, .slice a m cap] w fun e w' => e = .returned (.int .i64 (pgE c k p m)) ∧ ChAt w' X o (pgC c k p l) ∧ Kp (o.F c.nb) w w' := by
  subst hl
  have hm : l.length ≤ maxLen := hr.1.2.1
  unfold pgE pgC
  by_cases g : prE c k p l.length = 0
  · rw [if_pos g, if_pos g]
    obtain ⟨g1, g2, -⟩ := prE_zero g
    obtain ⟨g3, g4, g5⟩ := rpE_zero g1
    obtain ⟨-, g6, g7⟩ := reE_zero g3
    obtain ⟨n, rfl⟩ : ∃ n : Nat, k = n := ⟨k.toNat, by omega⟩
    obtain ⟨q, rfl⟩ : ∃ n : Nat, p = n := ⟨p.toNat, by omega⟩
    rw [g2] at g
    rw [g2, Int.toNat_natCast, Int.toNat_natCast]
    exact program_yes h n q a cap l hr g2 g
  · rw [if_neg g, if_neg g]
    refine (program_no h k p a l.length cap hm g).mono ?_
    rintro e w' ⟨rfl, rfl⟩
    exact ⟨rfl, h, Kp.refl _ _⟩

def clsB (y : Bk) : Bk := closeB y.st y.lv y.wr y.nx
/-- a page programmed, by so many rounds at most -/
def prgF (b : List Int) : Nat → List Bk → Ch → (Int × Int × Int) × List Bk × Ch
  | 0, l, c => ((0, 0, 0), l, c)
  | j + 1, l, c =>
    if (obI c.wear l).1 < 0 then ((0, 0, 40), (obI c.wear l).2, c) else
    if pgE c (obI c.wear l).1 (obI c.wear l).2[(obI c.wear l).1.toNat]!.nx b.length = 0 then (((obI c.wear l).1, (obI c.wear l).2[(obI c.wear l).1.toNat]!.nx, 0), (obI c.wear l).2.set (obI c.wear l).1.toNat (fillB c.np (obI c.wear l).2[(obI c.wear l).1.toNat]!), pgC c (obI c.wear l).1 (obI c.wear l).2[(obI c.wear l).1.toNat]!.nx b) else
    if pgE c (obI c.wear l).1 (obI c.wear l).2[(obI c.wear l).1.toNat]!.nx b.length = 11 then (((obI c.wear l).1, (obI c.wear l).2[(obI c.wear l).1.toNat]!.nx, 11), (obI c.wear l).2.set (obI c.wear l).1.toNat (clsB (obI c.wear l).2[(obI c.wear l).1.toNat]!), pgC c (obI c.wear l).1 (obI c.wear l).2[(obI c.wear l).1.toNat]!.nx b) else
    if pgE c (obI c.wear l).1 (obI c.wear l).2[(obI c.wear l).1.toNat]!.nx b.length = 10 then prgF b j ((obI c.wear l).2.set (obI c.wear l).1.toNat (clsB (obI c.wear l).2[(obI c.wear l).1.toNat]!)) (pgC c (obI c.wear l).1 (obI c.wear l).2[(obI c.wear l).1.toNat]!.nx b) else
    ((0, 0, pgE c (obI c.wear l).1 (obI c.wear l).2[(obI c.wear l).1.toNat]!.nx b.length), (obI c.wear l).2, pgC c (obI c.wear l).1 (obI c.wear l).2[(obI c.wear l).1.toNat]!.nx b)
/-- one round of it -/
theorem prgF_full {b : List Int} {j : Nat} {l : List Bk} {c : Ch} (h : (obI c.wear l).1 < 0) : prgF b (j + 1) l c = ((0, 0, 40), (obI c.wear l).2, c) := by rw [prgF, if_pos h]
theorem prgF_ok {b : List Int} {j : Nat} {l l1 : List Bk} {c : Ch} {k : Nat} {y : Bk} {p e : Int} (h : obI c.wear l = ((k : Int), l1)) (hy : l1[k]! = y) (hp : y.nx = p) (he : pgE c k p b.length = e) :
    prgF b (j + 1) l c = if e = 0 then (((k : Int), p, 0), l1.set k (fillB c.np y), pgC c k p b) else if e = 11 then (((k : Int), p, 11), l1.set k (clsB y), pgC c k p b) else if e = 10 then prgF b j (l1.set k (clsB y)) (pgC c k p b) else ((0, 0, e), l1, pgC c k p b) := by
  rw [prgF, h]
  dsimp only
  rw [if_neg (by omega), Int.toNat_natCast, hy, hp, he]
/-- how many blocks are free or open -/
def fo (l : List Bk) : Nat := l.countP (fun y => y.st == 0 || y.st == 1)
theorem obI_fo (f : Nat → Int) (l : List Bk) {k : Nat} {l1 : List Bk} (h : obI f l = ((k : Int), l1)) : k < l.length ∧ l1.length = l.length ∧ fo l1 = fo l ∧ (l1[k]!.st == 1) = true := by
  unfold obI at h
  by_cases g : fop l < l.length
  · rw [if_pos g] at h
    obtain ⟨h1, h2⟩ := Prod.mk.inj h
    subst h2
    rcases fop_cases l with ⟨q, hq, a1, a2, a3⟩ | ⟨-, a3⟩
    · have : k = q := by omega
      subst this
      exact ⟨hq, rfl, rfl, a1⟩
    · omega
  · rw [if_neg g] at h
    by_cases g2 : ob f l l.length < 0
    · rw [if_pos g2] at h
      obtain ⟨h1, h2⟩ := Prod.mk.inj h
      omega
    · rw [if_neg g2] at h
      obtain ⟨h1, h2⟩ := Prod.mk.inj h
      have hlt := (ob_lt f l l.length).2
      have hk : (ob f l l.length).toNat = k := by omega
      rw [hk] at h2
      have hkl : k < l.length := by omega
      have hst : ∀ n, 0 ≤ ob f l n → (l[(ob f l n).toNat]!.st == 0) = true := by
        intro n
        induction n with
        | zero => intro q; simp [ob] at q
        | succ n ih =>
          rw [ob]
          split
          · rename_i s0
            split
            · intro _; rw [Int.toNat_natCast]; exact s0
            · rename_i s1; intro q; exact ih q
          · intro q; exact ih q
      have hs := hst l.length (by omega)
      rw [hk] at hs
      subst h2
      refine ⟨hkl, by rw [List.length_set], ?_, ?_⟩
      · unfold fo
        rw [List.countP_set hkl]
        rw [getElem!_pos l k hkl] at hs
        have hpos : 0 < List.countP (fun y : Bk => y.st == 0 || y.st == 1) l := List.countP_pos_iff.2 ⟨l[k], List.getElem_mem hkl, by rw [hs]; rfl⟩
        simp only [hs, Bool.true_or, if_true]
        simp
        omega
      · rw [set_getB _ _ _ _ hkl, if_pos rfl]
        rfl
theorem fo_close {l : List Bk} {k : Nat} (hk : k < l.length) (h : (l[k]!.st == 1) = true) : fo (l.set k (clsB l[k]!)) < fo l := by
  unfold fo
  rw [List.countP_set hk]
  rw [getElem!_pos l k hk] at h ⊢
  have hpos : 0 < List.countP (fun y : Bk => y.st == 0 || y.st == 1) l := List.countP_pos_iff.2 ⟨l[k], List.getElem_mem hk, by rw [h, Bool.or_true]⟩
  have hc : ((clsB l[k]).st == 0 || (clsB l[k]).st == 1) = false := by
    unfold clsB closeB
    split <;> rfl
  simp only [h, Bool.or_true, if_true, hc]
  simp
  omega
theorem fo_le (l : List Bk) : fo l ≤ l.length := List.countP_le_length

end Go.Proofs.YtbfifppdcmimaaaGreat
