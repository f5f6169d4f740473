/-
  The document's chip in memory, its calls exactly: marking, a stroke without faults, reading, a script.
-/
import Derived.Test.YtiaaeiefgnoiaaaRxAt
import Derived.Deep.RegionHeld3
namespace Go.Proofs.Ytiaaeiefgnoiaaa
open Go.RowKit Crcm Go.ChangeShapes

set_option maxRecDepth 100000 in
set_option maxHeartbeats 1000000 in
theorem rxmark_no {w : World} {X : Nat → Prop} {o : Rb} {c : Rx} (h : RxAt w X o c) (k : Int) (hp : placeF c.nb c.np c.dn k 0 ≠ 0) :
    Calls Try.prog 40 #[.pointer (some ⟨o.g, 0, none⟩), .int .i64 k] w fun e w' => e = .returned (.int .i64 (placeF c.nb c.np c.dn k 0)) ∧ w = w' := by
  have HP := Lib.hid (rplace_any h.rc k 0)
  generalize placeF c.nb c.np c.dn k 0 = r at hp HP ⊢
  have q : (r != 0) = true := by simp [hp]
  clear h hp
  go_enter Try.func40, Try.ntmps40
  go_wp2_with fail
  refine HP.out.mono ?_
  rintro e w' ⟨rfl, rfl⟩
  go_wp2
  go_ret
  exact ⟨rfl, rfl⟩
set_option maxRecDepth 100000 in
set_option maxHeartbeats 1000000 in
theorem rxmark_yes {w : World} {X : Nat → Prop} {o : Rb} {c : Rx} (h : RxAt w X o c) (n : Nat) (hp : placeF c.nb c.np c.dn n 0 = 0) :
    Calls Try.prog 40 #[.pointer (some ⟨o.g, 0, none⟩), .int .i64 n] w fun e w' => e = .returned (.int .i64 0) ∧ RxAt w' X o { c with bad := up1 c.bad n true } ∧ Kp o.F w w' := by
  have HP := Lib.hid (rplace_any h.rc n 0)
  rw [hp] at HP
  obtain ⟨-, h0, h1, -, -⟩ := placeF_ok hp
  have hn : n < c.nb := by omega
  have hnb : c.nb < 129 := h.good.2.1
  obtain ⟨-, -, -, c6, -⟩ := h.rc.rows
  have f6 := (h.rc.froz n).2.2.2.2.1
  obtain ⟨-, -, c7, -⟩ := h.row hn
  have HR := Lib.hid (h.putb hn true)
  have HK := Lib.hid (kp_set (i := n) (u := .bool true) (Kp.refl o.F w) (q := o.b) (by simp [Rb.F]))
  obtain ⟨nb, hnbe⟩ : ∃ nb, c.nb = nb := ⟨_, rfl⟩
  rw [hnbe] at c6 h1 hnb
  clear h hp hn hnbe
  go_enter Try.func40, Try.ntmps40
  go_wp2_with fail
  refine HP.out.mono ?_
  rintro e w' ⟨rfl, rfl⟩
  go_wp2
  go_ret
  exact ⟨rfl, HR.out, HK.out⟩

/-- a stroke of a chip of no faults is counted -/
def rxS (c : Rx) : Rx := { c with si := wrap64 (c.si + 1), st := wrap64 (c.st + 1) }
set_option maxRecDepth 100000 in
set_option maxHeartbeats 1000000 in
theorem rxstroke_any {w : World} {X : Nat → Prop} {o : Rb} {c : Rx} (h : RxAt w X o c) (hfl : c.fl = []) :
    Calls Try.prog 61 #[.pointer (some ⟨o.g, 0, none⟩)] w fun e w' => e = .returned (.agg #[.int .i64 0, .int .i64 0, .slice none 0 0]) ∧ RxAt w' X o (rxS c) ∧ Kp o.F w w' := by
  have hXl := h.old
  have hFX := h.inX
  have hbl : o.g < w.heap.size := h.rc.geo.2.2.2.2
  obtain ⟨c9, -, c11, -⟩ := h.gcells
  have f9 := (h.rc.froz 9).1
  have f11 := (h.rc.froz 11).1
  have hu : RxAt ((w.setCell ⟨o.g, 9, none⟩ (.int .i64 (wrap64 (c.si + 1)))).setCell ⟨o.g, 11, none⟩ (.int .i64 (wrap64 (c.st + 1)))) X o (rxS c) := (h.puts (wrap64 (c.si + 1))).putt (wrap64 (c.st + 1))
  have K1 := kp_set (i := 11) (u := .int .i64 (wrap64 (c.st + 1))) (q := o.g) (kp_set (i := 9) (u := .int .i64 (wrap64 (c.si + 1))) (Kp.refl o.F w) (q := o.g) (.inl rfl)) (.inl rfl)
  obtain ⟨si, hsi⟩ : ∃ si, c.si = si := ⟨_, rfl⟩
  obtain ⟨st, hst⟩ : ∃ st, c.st = st := ⟨_, rfl⟩
  rw [hsi] at c9 hu K1
  rw [hst] at c11 hu K1
  have hz : ((w.setCell ⟨o.g, 9, none⟩ (.int .i64 (wrap64 (si + 1)))).setCell ⟨o.g, 11, none⟩ (.int .i64 (wrap64 (st + 1)))).heap.size = w.heap.size := by simp [World.setCell]
  have B2 := Lib.hid (Blk.new ((w.setCell ⟨o.g, 9, none⟩ (.int .i64 (wrap64 (si + 1)))).setCell ⟨o.g, 11, none⟩ (.int .i64 (wrap64 (st + 1)))) 66 #[.int .i64 0, .int .i64 0, .slice none 0 0])
  have hE : ∀ x y z, RxAt (((((((w.setCell ⟨o.g, 9, none⟩ (.int .i64 (wrap64 (si + 1)))).setCell ⟨o.g, 11, none⟩ (.int .i64 (wrap64 (st + 1)))).alloc (.cells #[.int .i64 0, .int .i64 0, .slice none 0 0] 66))).setCell ⟨w.heap.size, 0, none⟩ x).setCell ⟨w.heap.size, 1, none⟩ y).setCell ⟨w.heap.size, 2, none⟩ z) X o (rxS c) ∧
      Kp o.F w (((((((w.setCell ⟨o.g, 9, none⟩ (.int .i64 (wrap64 (si + 1)))).setCell ⟨o.g, 11, none⟩ (.int .i64 (wrap64 (st + 1)))).alloc (.cells #[.int .i64 0, .int .i64 0, .slice none 0 0] 66))).setCell ⟨w.heap.size, 0, none⟩ x).setCell ⟨w.heap.size, 1, none⟩ y).setCell ⟨w.heap.size, 2, none⟩ z) := fun x y z => by
    have hk := kp_three ((Kp.refl (fun b => b = w.heap.size) ((w.setCell ⟨o.g, 9, none⟩ (.int .i64 (wrap64 (si + 1)))).setCell ⟨o.g, 11, none⟩ (.int .i64 (wrap64 (st + 1))))).alloc (.cells #[.int .i64 0, .int .i64 0, .slice none 0 0] 66)) (g := w.heap.size) (.inl rfl) x y z
    refine ⟨hu.step hk (fun b e => .inr (by rw [e, hz]; exact Nat.le_refl _)) (fun b hb e => by have := hXl b (hFX b hb); omega) (fun _ g => .inl g) (fun b g => Nat.lt_of_lt_of_le (hu.old b g) hk.size) hFX, kp_three (K1.alloc _) (.inr (Nat.le_refl _)) x y z⟩
  have HE := Lib.hid hE
  have c8 : ∃ a cap, (((w.setCell ⟨o.g, 9, none⟩ (.int .i64 (wrap64 (si + 1)))).setCell ⟨o.g, 11, none⟩ (.int .i64 (wrap64 (st + 1)))).alloc (.cells #[.int .i64 0, .int .i64 0, .slice none 0 0] 66)).cell? ⟨o.g, 8, none⟩ = some (.slice a 0 cap) := by
    obtain ⟨fv, h1, a, cap, rfl, -, -⟩ := hu.chip
    refine ⟨a, cap, ?_⟩
    have e : (rxS c).fl.length = 0 := by show c.fl.length = 0; rw [hfl]; rfl
    rw [e] at h1
    exact (h1.alloc _).cell 8
  obtain ⟨a, cap, c8⟩ := c8
  rw [hz] at B2
  clear hu K1 hz hE hXl hFX hfl hsi hst h
  go_enter Try.func61, Try.ntmps61
  go_wp2_with fail
  clear c9 c11 f9 f11
  generalize (((w.setCell ⟨o.g, 9, none⟩ (.int .i64 (wrap64 (si + 1)))).setCell ⟨o.g, 11, none⟩ (.int .i64 (wrap64 (st + 1)))).alloc (.cells #[.int .i64 0, .int .i64 0, .slice none 0 0] 66)) = W2 at HE B2 c8 ⊢
  generalize w.heap.size = g at HE B2 hbl ⊢
  have x0 : W2.cell? ⟨g, 0, none⟩ = some (.int .i64 0) := B2.out.cell 0
  have x1 : W2.cell? ⟨g, 1, none⟩ = some (.int .i64 0) := B2.out.cell 1
  have x2 : W2.cell? ⟨g, 2, none⟩ = some (.slice none 0 0) := B2.out.cell 2
  have z0 := fun i => B2.out.frozen i
  go_loop [4] (fun i => ∃ k : Nat, k ≤ 0 ∧ i = .int .i64 k) (fun i => 0 - (intOf i).toNat)
  case atStart => exact ⟨0, by omega, rfl⟩
  case round =>
    obtain ⟨k, hk, rfl⟩ := hrel
    have hk0 : k = 0 := by omega
    subst hk0
    go_wp2
    exact rstroke_done (Blk.put3 B2.out) rfl ⟨rfl, HE.out _ _ _⟩

set_option maxRecDepth 100000 in
set_option maxHeartbeats 1000000 in
theorem rxread_no {w : World} {X : Nat → Prop} {o : Rb} {c : Rx} (h : RxAt w X o c) (k page : Int) (hp : placeF c.nb c.np c.dn k page ≠ 0) :
    Calls Try.prog 41 #[.pointer (some ⟨o.g, 0, none⟩), .int .i64 k, .int .i64 page] w fun e w' => e = .returned (.tuple #[.slice none 0 0, .int .i64 (placeF c.nb c.np c.dn k page)]) ∧ w = w' := by
  have HP := Lib.hid (rplace_any h.rc k page)
  generalize placeF c.nb c.np c.dn k page = r at hp HP ⊢
  have q : (r != 0) = true := by simp [hp]
  clear h hp
  go_enter Try.func41, Try.ntmps41
  go_wp2_with fail
  refine HP.out.mono ?_
  rintro e w' ⟨rfl, rfl⟩
  go_wp2
  go_ret2
  exact ⟨rfl, rfl⟩

set_option maxRecDepth 100000 in
set_option maxHeartbeats 1000000 in
theorem rxread_yes {w : World} {X : Nat → Prop} {o : Rb} {c : Rx} (h : RxAt w X o c) (n q : Nat) (hp : placeF c.nb c.np c.dn n q = 0) :
    Calls Try.prog 41 #[.pointer (some ⟨o.g, 0, none⟩), .int .i64 n, .int .i64 q] w fun e w' =>
      (∃ g cc, e = .returned (.tuple #[.slice (some ⟨g, 0, none⟩) (c.sz + 32 : Nat) cc, .int .i64 0]) ∧ c.sz + 32 ≤ cc ∧ Rw w' (some ⟨g, 0, none⟩) (flF (c.pg (n * c.np + q)) (c.sz + 32))) ∧ RxAt w' X o { c with rd := wrap64 (c.rd + 1) } ∧ Kp o.F w w' := by
  obtain ⟨nb, np, sz, pg, nx, br, bad, wea, fl, si, dn, st, rd⟩ := c
  dsimp only at hp ⊢
  have hrc := h.rc
  dsimp only at hrc
  have HP := Lib.hid (rplace_any hrc n q)
  rw [hp] at HP
  obtain ⟨-, h0, h1, h2, h3⟩ := placeF_ok hp
  have hn : n < nb := by omega
  have hq : q < np := by omega
  have hix := page_ix hn hq
  have hnb : nb < 129 := h.good.2.1
  have hnp : np < 33 := h.good.2.2.2.1
  have c12 : w.cell? ⟨o.g, 12, none⟩ = some (.int .i64 rd) := h.gcells.2.2.2
  have f12 := (hrc.froz 12).1
  have HRx := Lib.hid (h.putr (wrap64 (rd + 1)))
  have HR := Lib.hid HRx.out.rc
  have HK := Lib.hid (kp_set (i := 12) (u := .int .i64 (wrap64 (rd + 1))) (q := o.g) (Kp.refl o.F w) (.inl rfl))
  dsimp only at HR
  clear hp h hrc
  go_enter Try.func41, Try.ntmps41
  go_wp2_with fail
  refine HP.out.mono ?_
  rintro e w' ⟨rfl, rfl⟩
  go_wp2_with fail
  generalize hW : w.setCell ⟨o.g, 12, none⟩ (.int .i64 (wrap64 (rd + 1))) = W at HR HRx HK ⊢
  obtain ⟨A, c, cp, hlc, hrw⟩ := HRx.out.page (i := n * np + q) hix
  dsimp only at cp hlc hrw
  obtain ⟨g0, g1, -, -, -⟩ := HR.out.geo
  obtain ⟨r3, -⟩ := HR.out.rows
  generalize hl : pg (n * np + q) = l at cp hlc hrw ⊢
  obtain ⟨m, hm⟩ : ∃ m, l.length = m := ⟨_, rfl⟩
  rw [hm] at cp
  obtain ⟨P, N, I, hP, hN, hI, hPw, hIw, hIN, hN4, hi0, hi1⟩ := page_no hn hq hnb hnp
  rw [hN] at r3
  rw [hI] at cp
  have HLl := Lib.hid hl
  have FF := Lib.hid (fun (w' : World) (hb : Below W.heap.size W w') => (rfull_any (HR.out.below hb) A m c l (hrw.1.below hb) hm).mono (fun e w1 (hh : _ ∧ Below w'.heap.size w' w1) =>
    (⟨(let ⟨g, c', h1, h2, h3, h4⟩ := hh.1; ⟨g, c', h1, h2, Nat.le_trans hb.size h3, h4⟩ : ∃ g c', e = .returned (.slice (some ⟨g, 0, none⟩) (sz + 32 : Nat) c') ∧ sz + 32 ≤ c' ∧ W.heap.size ≤ g ∧ Rw w1 (some ⟨g, 0, none⟩) (flF l (sz + 32))),
      ((hb.trans (hh.2.mono hb.size)).cell (block_lt_of_cell cp)).trans cp, ((hb.trans (hh.2.mono hb.size)).cell (block_lt_of_cell r3)).trans r3, ((hb.trans (hh.2.mono hb.size)).cell (block_lt_of_cell g1)).trans g1, hb.trans (hh.2.mono hb.size)⟩ :
      (∃ g c', e = .returned (.slice (some ⟨g, 0, none⟩) (sz + 32 : Nat) c') ∧ sz + 32 ≤ c' ∧ W.heap.size ≤ g ∧ Rw w1 (some ⟨g, 0, none⟩) (flF l (sz + 32))) ∧
      w1.cell? ⟨o.p, I, none⟩ = some (.slice A m c) ∧ w1.cell? ⟨o.g, 3, none⟩ = some (.slice (some ⟨o.p, 0, none⟩) N N) ∧ w1.cell? ⟨o.g, 1, none⟩ = some (.int .i64 np) ∧ Below W.heap.size W w1)))
  clear h0 h1 h2 h3 c12 f12 hP hN hrw hlc hm hW g0 hI hix hl
  go_region_held3 (fun w' => w'.cell? ⟨o.p, I, none⟩ = some (.slice A m c) ∧ w'.cell? ⟨o.g, 3, none⟩ = some (.slice (some ⟨o.p, 0, none⟩) N N) ∧ w'.cell? ⟨o.g, 1, none⟩ = some (.int .i64 np) ∧ Below W.heap.size W w')
    ((go_split_ands; refine ⟨?_, ?_, ?_, ?_⟩ <;> first | assumption | exact Below.drew (by assumption) | exact (Below.refl _ W).drew | go_keep))
    (first | (go_at_call 62; refine (FF.out _ ?_).mono ?_; (go_split_ands; assumption); rintro e w1 ⟨⟨gg, cc, rfl, hcc, hgg, hrr⟩, hk1, hk2, hk3, hb1⟩))
  clear hk1 hk2 hk3 hPw hIw hi0 hi1
  have HR2 := Lib.hid (HRx.out.below hb1)
  have HK2 := Lib.hid (HK.out.of_two hb1)
  clear hb1
  go_wp2
  go_ret2
  exact ⟨⟨_, cc, rfl, hcc, by rw [HLl.out]; exact hrr⟩, HR2.out, HK2.out⟩

set_option maxRecDepth 100000 in
set_option maxHeartbeats 1000000 in
theorem rxscript_any {w : World} {X : Nat → Prop} {o : Rb} {cc : Rx} (h : RxAt w X o cc) (a : Option Addr) (n c : Nat) (fl : List Fl) (hf : FlAt w X (.slice a n c) fl) :
    Calls Try.prog 43 #[.pointer (some ⟨o.g, 0, none⟩), .slice a n c] w fun e w' =>
      (((∀ f ∈ fl, 0 ≤ f.at') ∧ e = .returned (.int .i64 0) ∧ RxAt w' X o { cc with fl := fl, si := 0 }) ∨ ((¬ ∀ f ∈ fl, 0 ≤ f.at') ∧ e = .returned (.int .i64 1) ∧ RxAt w' X o cc)) ∧ Kp o.F w w' := by
  have H := Lib.hid h
  obtain ⟨a', c', he, hm, hrow⟩ := hf
  injection he with e1 e2 e3
  subst e1 e2 e3
  have HF := Lib.hid (show FlAt w X (.slice a fl.length c) fl from ⟨a, c, rfl, hm, hrow⟩)
  obtain ⟨n, hn⟩ : ∃ n, fl.length = n := ⟨_, rfl⟩
  unfold maxLen at hm
  have HRow := Lib.hid hrow
  have HN := Lib.hid hn
  rw [hn] at hm HF ⊢
  have f8 := (h.rc.froz 8).1
  have f9 := (h.rc.froz 9).1
  have HR := Lib.hid ((h.putf HF.out).puts 0)
  have HK := Lib.hid (kp_set (i := 9) (u := .int .i64 0) (q := o.g) (kp_set (i := 8) (u := .slice a n c) (Kp.refl o.F w) (q := o.g) (.inl rfl)) (.inl rfl))
  obtain ⟨_, hb, -⟩ := h.chip
  have c8 := hb.cell 8
  have c9 := hb.cell 9
  simp [rcV] at c8 c9
  clear h hrow hn hb
  go_enter Try.func43, Try.ntmps43
  go_wp2_with fail
  go_loop [5] (fun i => ∃ k : Nat, k ≤ n ∧ i = .int .i64 k ∧ Hid (∀ j (hj : j < fl.length), j < k → 0 ≤ fl[j].at')) (fun i => n - (intOf i).toNat)
  case atStart => exact ⟨0, by omega, rfl, Lib.hid (fun j hj hk => by omega)⟩
  case round =>
    obtain ⟨k, hk, rfl, hA⟩ := hrel
    by_cases hlt : k < n
    · have kl : (k : Int) < (n : Int) := by omega
      have hkl : k < fl.length := by rw [HN.out]; exact hlt
      rcases HRow.out with h0 | ⟨b, off, rfl, -, hcs⟩
      · rw [h0] at hkl; simp at hkl
      obtain ⟨q0, -⟩ := hcs k hkl
      have HNo : Hid (fl[k].at' < 0 → ¬ ∀ f ∈ fl, 0 ≤ f.at') := Lib.hid (fun h g => by have := g _ (List.getElem_mem hkl); omega)
      have HYes : Hid (0 ≤ fl[k].at' → ∀ j (hj : j < fl.length), j < k + 1 → 0 ≤ fl[j].at') := Lib.hid (fun h j hj hjk => by
        by_cases e : j = k
        · subst e; exact h
        · exact hA.out j hj (by omega))
      generalize fl[k] = f at q0 HNo HYes
      clear hcs hkl
      by_cases hz : f.at' < 0
      · have HN2 := Lib.hid (HNo.out hz)
        go_wp2
        go_ret
        exact ⟨.inr ⟨by have := HN2.out; simpa using this, rfl, H.out⟩, Kp.refl _ _⟩
      · have HY2 := Lib.hid (HYes.out (by omega))
        go_wp2
        go_round
        case rel => exact ⟨k + 1, by omega, by go_num, HY2⟩
        case measure => simp [intOf]; omega
    · have kl : ¬ (k : Int) < (n : Int) := by omega
      have HAll : Hid (∀ f ∈ fl, 0 ≤ f.at') := Lib.hid fun f hf => by
        obtain ⟨j, hj, rfl⟩ := List.mem_iff_getElem.1 hf
        exact hA.out j hj (by have := HN.out; omega)
      go_wp2
      go_ret
      exact ⟨.inl ⟨HAll.out, rfl, HR.out⟩, HK.out⟩

end Go.Proofs.Ytiaaeiefgnoiaaa
