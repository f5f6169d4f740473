/-
  The document's chip in memory: a page is programmed on a chip of no faults, exactly.
-/
import Derived.Test.YtiaaeiefgnoiaaaRxOps
import Derived.Test.YtiaaeiefgnoiaaaRefProg
import Derived.Deep.RegionWith
import Derived.Deep.Cut
namespace Go.Proofs.Ytiaaeiefgnoiaaa
open Go.RowKit Crcm Go.ChangeShapes

/-- what a programming of the document's chip answers -/
def rxP (c : Rx) (k page : Int) (m : Nat) : Int :=
  if placeF c.nb c.np c.dn k page ≠ 0 then placeF c.nb c.np c.dn k page else if m ≠ c.sz + 32 then 1 else if c.bad k.toNat then 13 else if c.br k.toNat = true ∨ c.nx k.toNat ≠ page then 10 else 0
/-- the chip behind it -/
def rxPC (c : Rx) (n q : Nat) (l : List Int) : Rx := { rxS c with nx := up1 c.nx n ((q : Int) + 1), pg := up1 c.pg (n * c.np + q) (flF l (c.sz + 32)) }

set_option maxRecDepth 100000 in
set_option maxHeartbeats 4000000 in
theorem rxprog_no {w : World} {X : Nat → Prop} {o : Rb} {cx : Rx} (h : RxAt w X o cx) (k page : Int) (A : Option Addr) (m c : Nat) (_hm : m ≤ maxLen) (he : rxP cx k page m ≠ 0) :
    Calls Try.prog 38 #[.pointer (some ⟨o.g, 0, none⟩), .int .i64 k, .int .i64 page, .slice A m c] w fun e w' => e = .returned (.int .i64 (rxP cx k page m)) ∧ w = w' := by
  have HP := Lib.hid (rplace_any h.rc k page)
  have hm : m ≤ 2 ^ 63 - 1 := by have := _hm; unfold maxLen at this; omega
  by_cases hp : placeF cx.nb cx.np cx.dn k page = 0
  · have hE : rxP cx k page m = if m ≠ cx.sz + 32 then 1 else if cx.bad k.toNat then 13 else if cx.br k.toNat = true ∨ cx.nx k.toNat ≠ page then 10 else 0 := by
      unfold rxP
      rw [if_neg (by rw [hp]; exact fun g => g rfl)]
    rw [hE] at he ⊢
    rw [hp] at HP
    obtain ⟨-, h0, h1, h2, h3⟩ := placeF_ok hp
    obtain ⟨n, rfl⟩ : ∃ n : Nat, k = n := ⟨k.toNat, by omega⟩
    have hn : n < cx.nb := by omega
    have hnb : cx.nb < 129 := h.good.2.1
    have hsz : cx.sz ≤ 512 := by have := h.good; unfold Gd at this; omega
    obtain ⟨g0, g1, g2, g10, hgl⟩ := h.rc.geo
    obtain ⟨r3, r4, r5, r6, -⟩ := h.rc.rows
    obtain ⟨cn, ck, cb, -⟩ := h.row hn
    rw [show ((n : Int).toNat) = n from Int.toNat_natCast n] at he ⊢
    generalize cx.bad n = zb at cb he ⊢
    generalize cx.br n = zk at ck he ⊢
    generalize cx.nx n = zn at cn he ⊢
    obtain ⟨nb, hnbe⟩ : ∃ nb, cx.nb = nb := ⟨_, rfl⟩
    obtain ⟨sz, hsze⟩ : ∃ sz, cx.sz = sz := ⟨_, rfl⟩
    rw [hnbe] at g0 r4 r5 r6 hnb h1 hn
    rw [hsze] at g2 he hsz ⊢
    clear h hE hp hnbe hsze r3 g1 g10
    by_cases e1 : m = sz + 32
    · have t1 : ((m : Int) != (sz : Int) + 32) = false := by simp; omega
      rw [if_neg (by simpa using e1)] at he ⊢
      clear e1
      rcases zb with _ | _
      · rw [if_neg (by decide)] at he ⊢
        have hor : zk = true ∨ zn ≠ page := by
          apply Classical.byContradiction
          intro g
          rw [if_neg g] at he
          exact he rfl
        rw [if_pos hor]
        clear he
        rcases zk with _ | _
        · have t2 : (zn != page) = true := by
            rcases hor with hor | hor
            · cases hor
            · simpa using hor
          clear hor
          go_enter Try.func38, Try.ntmps38
          go_wp2_with fail
          refine HP.out.mono ?_
          rintro e w' ⟨rfl, rfl⟩
          go_wp2
          go_ret
          exact ⟨rfl, rfl⟩
        · clear hor
          go_enter Try.func38, Try.ntmps38
          go_wp2_with fail
          refine HP.out.mono ?_
          rintro e w' ⟨rfl, rfl⟩
          go_wp2
          go_ret
          exact ⟨rfl, rfl⟩
      · rw [if_pos rfl] at he ⊢
        go_enter Try.func38, Try.ntmps38
        go_wp2_with fail
        refine HP.out.mono ?_
        rintro e w' ⟨rfl, rfl⟩
        go_wp2
        go_ret
        exact ⟨rfl, rfl⟩
    · have t1 : ((m : Int) != (sz : Int) + 32) = true := by simp; omega
      rw [if_pos (by simpa using e1)]
      clear e1 he
      go_enter Try.func38, Try.ntmps38
      go_wp2_with fail
      refine HP.out.mono ?_
      rintro e w' ⟨rfl, rfl⟩
      go_wp2
      go_ret
      exact ⟨rfl, rfl⟩
  · have hE : rxP cx k page m = placeF cx.nb cx.np cx.dn k page := by unfold rxP; rw [if_pos hp]
    rw [hE]
    generalize placeF cx.nb cx.np cx.dn k page = r at hp HP ⊢
    have q : (r != 0) = true := by simp [hp]
    clear h hp he hE
    go_enter Try.func38, Try.ntmps38
    go_wp2_with fail
    refine HP.out.mono ?_
    rintro e w' ⟨rfl, rfl⟩
    go_wp2
    go_ret
    exact ⟨rfl, rfl⟩

/-- a page's bytes, made anew, are put into the row of pages -/
theorem rxput_new {w W w3 : World} {X : Nat → Prop} {o : Rb} {c : Rx} {I g wd cc : Nat} {l : List Int} (h : RxAt W X o c) (hI : I < c.nb * c.np) (hK : Kp o.F w W) (hb : Below W.heap.size W w3)
    (hr : Rw w3 (some ⟨g, 0, none⟩) l) (hl : l.length = wd) (hc : wd ≤ cc) (hg : W.heap.size ≤ g) :
    RxAt (w3.setCell ⟨o.p, I, none⟩ (.slice (some ⟨g, 0, none⟩) wd cc)) X o { c with pg := up1 c.pg I l } ∧ Kp o.F w (w3.setCell ⟨o.p, I, none⟩ (.slice (some ⟨g, 0, none⟩) wd cc)) := by
  refine ⟨(h.below hb).putp hI ⟨some ⟨g, 0, none⟩, cc, by rw [hl], by rw [hl]; exact hc, hr, fun b off s e _ gx => ?_⟩, kp_set (hK.of_two hb) (.inr (.inl rfl))⟩
  injection e with e
  injection e with e1 e2 e3
  subst e1
  have := h.old _ gx
  omega

theorem rxP_zero {c : Rx} {n q m : Nat} (he : rxP c n q m = 0) : placeF c.nb c.np c.dn n q = 0 ∧ m = c.sz + 32 ∧ c.bad n = false ∧ c.br n = false ∧ c.nx n = (q : Int) := by
  unfold rxP at he
  have hp : placeF c.nb c.np c.dn n q = 0 := by
    apply Classical.byContradiction
    intro g
    rw [if_pos g] at he
    exact g he
  rw [if_neg (by rw [hp]; exact fun g => g rfl), Int.toNat_natCast] at he
  have hm : m = c.sz + 32 := by
    apply Classical.byContradiction
    intro g
    rw [if_pos g] at he
    cases he
  rw [if_neg (by simpa using hm)] at he
  have hbd : c.bad n = false := by
    cases hbv : c.bad n with
    | false => rfl
    | true => rw [hbv, if_pos rfl] at he; cases he
  rw [hbd, if_neg (by decide)] at he
  have hno : ¬ (c.br n = true ∨ c.nx n ≠ (q : Int)) := by
    intro g
    rw [if_pos g] at he
    cases he
  refine ⟨hp, hm, hbd, ?_, ?_⟩
  · cases hbv : c.br n with
    | false => rfl
    | true => exact absurd (.inl hbv) hno
  · apply Classical.byContradiction
    intro g
    exact hno (.inr g)

set_option maxRecDepth 100000 in
set_option maxHeartbeats 4000000 in
theorem rxprog_yes {w : World} {X : Nat → Prop} {o : Rb} {cx : Rx} (h : RxAt w X o cx) (hfl : cx.fl = []) (n q : Nat) (A : Option Addr) (m c : Nat) (l : List Int) (hr : RwX w X A l) (hl : l.length = m) (he : rxP cx n q m = 0) :
    Calls Try.prog 38 #[.pointer (some ⟨o.g, 0, none⟩), .int .i64 n, .int .i64 q, .slice A m c] w fun e w' => e = .returned (.int .i64 0) ∧ RxAt w' X o (rxPC cx n q l) ∧ Kp o.F w w' := by
  have hS := rxstroke_any h hfl
  obtain ⟨hp, hm, hbd, hbr, hnx⟩ := rxP_zero he
  unfold rxPC
  unfold rxS at *
  obtain ⟨nb, np, sz, pg, nx, br, bad, wea, fl, si, dn, st, rd⟩ := cx
  dsimp only at hp hm hbd hbr hnx hS ⊢
  have hrc := h.rc
  dsimp only at hrc
  have HP := Lib.hid (rplace_any hrc n q)
  rw [hp] at HP
  obtain ⟨-, h0, h1, h2, h3⟩ := placeF_ok hp
  have hn : n < nb := by omega
  have hq : q < np := by omega
  have hnb : nb < 129 := h.good.2.1
  have hnp : np < 33 := h.good.2.2.2.1
  have hsz : sz ≤ 512 := by have := h.good; unfold Gd at this; dsimp only at this; omega
  obtain ⟨g0, g1, g2, g10, hgl⟩ := hrc.geo
  obtain ⟨r3, r4, r5, r6, -⟩ := hrc.rows
  obtain ⟨cn, ck, cb, -⟩ := h.row (k := n) hn
  dsimp only at cn ck cb
  rw [hbd] at cb
  rw [hbr] at ck
  rw [hnx] at cn
  have HS := Lib.hid hS
  have H := Lib.hid h
  have HR := Lib.hid hr
  have HL := Lib.hid hl
  have HM := Lib.hid (show m ≤ maxLen by have := hr.1.2.1; omega)
  have t1 : ((m : Int) != (sz : Int) + 32) = false := by simp; omega
  have t2 : ((q : Int) != (q : Int)) = false := bne_self_eq_false _
  clear h hr hl hp h0 h1 h2 h3 hm hbd hbr hnx he hS hrc hfl
  obtain ⟨P, N, I, hP, hN, hI, hPw, hIw, hIN, hN4, hi0, hi1⟩ := page_no hn hq hnb hnp
  go_enter Try.func38, Try.ntmps38
  go_wp2_with fail
  refine HP.out.mono ?_
  rintro e w' ⟨rfl, rfl⟩
  go_wp2_with fail
  refine HS.out.mono ?_
  rintro r w1 ⟨rfl, hch, hkp⟩
  have C2 := Lib.hid (hch.below ((Below.refl _ _).alloc (Nat.le_refl _) (.cells #[.int .i64 0, .int .i64 0, .slice none 0 0] 66)))
  have K2 := Lib.hid (hkp.alloc (.cells #[.int .i64 0, .int .i64 0, .slice none 0 0] 66))
  have B2 := Lib.hid (Blk.new w1 66 #[.int .i64 0, .int .i64 0, .slice none 0 0])
  have L2 := Lib.hid (HR.out.kp K2.out H.out.inX)
  obtain ⟨y0, y1, y2, y3, -, -⟩ := hch.rc.gfar
  clear hch hkp HS H HR g0 g1 g2 g10 hgl r3 r4 r5 r6 cn ck cb
  go_upto_region 11 with (fail)
  generalize (w1.alloc (.cells #[.int .i64 0, .int .i64 0, .slice none 0 0] 66)) = W at C2 K2 B2 L2 ⊢
  generalize w1.heap.size = fb at B2 y0 y1 y2 y3 ⊢
  have c1 : W.cell? ⟨fb, 1, none⟩ = some (.int .i64 0) := B2.out.cell 1
  have c2 : W.cell? ⟨fb, 2, none⟩ = some (.slice none 0 0) := B2.out.cell 2
  have hC2 := C2.out.rc
  dsimp only at hC2
  obtain ⟨-, g1, -, -, -⟩ := hC2.geo
  obtain ⟨-, r4, -, -, -⟩ := hC2.rows
  obtain ⟨⟨z5, cn⟩, -, -, -⟩ := hC2.row hn
  have fn := (hC2.froz n).2.2.1
  have hn0 : (0 : Int) ≤ (n : Int) := by omega
  have hn1 : (n : Int) < (nb : Int) := by omega
  have hq1 : (q : Int) + 1 ≤ 33 := by omega
  go_upto_region 16 with (fail)
  have C5 := Lib.hid (C2.out.putn (i := n) hn ((q : Int) + 1))
  have K5 := Lib.hid (kp_set (i := n) (u := .int .i64 ((q : Int) + 1)) K2.out (q := o.n) (.inr (.inr (.inl rfl))))
  have K6 := kp_set (i := n) (u := .int .i64 ((q : Int) + 1)) (Kp.refl o.F W) (q := o.n) (.inr (.inr (.inl rfl)))
  have B5 := Lib.hid (B2.out.far (p := ⟨o.n, n, none⟩) (show fb ≠ o.n by omega) (.int .i64 ((q : Int) + 1)))
  have L5 := Lib.hid (L2.out.kp K6 C2.out.inX)
  clear K6 c1 c2 g1 r4 cn fn hq1 C2 K2 B2 L2 hC2
  generalize W.setCell ⟨o.n, n, none⟩ (.int .i64 ((q : Int) + 1)) = W5 at C5 K5 B5 L5 ⊢
  have c1 : W5.cell? ⟨fb, 1, none⟩ = some (.int .i64 0) := B5.out.cell 1
  have c2 : W5.cell? ⟨fb, 2, none⟩ = some (.slice none 0 0) := B5.out.cell 2
  have hC5 := C5.out.rc
  dsimp only at hC5
  obtain ⟨r3, -, -, -, -⟩ := hC5.rows
  obtain ⟨A3, l3, k3, hp3, -, -⟩ := hC5.page (i := I) (by rw [hN]; exact hIN)
  have hf3 := (hC5.froz I).2.1
  rw [hN] at r3
  have hbp : fb ≠ o.p := by omega
  have hbg : fb ≠ o.g := by omega
  have HIN : Hid (I < nb * np) := Lib.hid (by rw [hN]; exact hIN)
  have HII := Lib.hid hI
  have FF := Lib.hid (rfull_later (c := c) hC5 L5.out.1 HL.out hp3 hf3 r3 c1 c2)
  clear hP hN hI hPw hIw hC5
  go_upto_region 17 with (fail)
  go_region_with (first
    | (go_at_call 62; refine (FF.out _ ?_).mono ?_; exact (Below.refl _ W5).drew; rintro e w3 ⟨⟨gg, cc, rfl, hcc, hgg, hrr⟩, k1, k2, k3, k4, k5, hb3⟩))
  all_goals
    obtain ⟨q1, q2⟩ := rxput_new (I := I) C5.out HIN.out K5.out hb3 hrr (flF_len _ _) hcc hgg
    rw [← HII.out] at q1
    have Q1 := Lib.hid q1
    have Q2 := Lib.hid q2
    clear q1 q2 k1 k2 k3 k4 k5 hrr
    go_wp2
    go_ret
    have hE := HII.out
    subst hE
    exact ⟨rfl, Q1.out, Q2.out⟩

end Go.Proofs.Ytiaaeiefgnoiaaa
