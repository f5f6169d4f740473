/-
  The document's chip in memory: a block is erased on a chip of no faults, exactly.
-/
import Derived.Test.YtiaaeiefgnoiaaaRxProg
namespace Go.Proofs.Ytiaaeiefgnoiaaa
open Go.RowKit Crcm Go.ChangeShapes

/-- what an erasing of the document's chip answers -/
def rxE (c : Rx) (k : Int) : Int := if placeF c.nb c.np c.dn k 0 ≠ 0 then placeF c.nb c.np c.dn k 0 else if c.bad k.toNat then 13 else 0
/-- the first pages of a block without bytes -/
def clr (f : Nat → List Int) (P j : Nat) : Nat → List Int := fun i => if P ≤ i ∧ i < P + j then [] else f i
theorem clr_zero (f : Nat → List Int) (P : Nat) : clr f P 0 = f := by
  funext i
  unfold clr
  rw [if_neg (by omega)]
theorem clr_succ (f : Nat → List Int) (P j : Nat) : up1 (clr f P j) (P + j) [] = clr f P (j + 1) := by
  funext i
  by_cases e : i = P + j
  · subst e
    rw [up1_at]
    unfold clr
    rw [if_pos (by omega)]
  · rw [up1_ne _ _ e]
    unfold clr
    by_cases g : P ≤ i ∧ i < P + j
    · rw [if_pos g, if_pos (by omega)]
    · rw [if_neg g, if_neg (by omega)]
/-- the chip behind it -/
def rxEC (c : Rx) (n : Nat) : Rx := { rxS c with wr := up1 c.wr n (wrap64 (c.wr n + 1)), pg := clr c.pg (n * c.np) c.np, br := up1 c.br n false, nx := up1 c.nx n 0 }

set_option maxRecDepth 100000 in
set_option maxHeartbeats 4000000 in
theorem rxerase_no {w : World} {X : Nat → Prop} {o : Rb} {cx : Rx} (h : RxAt w X o cx) (k : Int) (he : rxE cx k ≠ 0) :
    Calls Try.prog 39 #[.pointer (some ⟨o.g, 0, none⟩), .int .i64 k] w fun e w' => e = .returned (.int .i64 (rxE cx k)) ∧ w = w' := by
  have HP := Lib.hid (rplace_any h.rc k 0)
  by_cases hp : placeF cx.nb cx.np cx.dn k 0 = 0
  · have hE : rxE cx k = if cx.bad k.toNat then 13 else 0 := by
      unfold rxE
      rw [if_neg (by rw [hp]; exact fun g => g rfl)]
    rw [hE] at he ⊢
    rw [hp] at HP
    obtain ⟨-, h0, h1, h2, h3⟩ := placeF_ok hp
    obtain ⟨n, rfl⟩ : ∃ n : Nat, k = n := ⟨k.toNat, by omega⟩
    have hn : n < cx.nb := by omega
    have hnb : cx.nb < 129 := h.good.2.1
    obtain ⟨r3, r4, r5, r6, -⟩ := h.rc.rows
    obtain ⟨-, -, cb, -⟩ := h.row hn
    rw [show ((n : Int).toNat) = n from Int.toNat_natCast n] at he ⊢
    generalize cx.bad n = zb at cb he ⊢
    obtain ⟨nb, hnbe⟩ : ∃ nb, cx.nb = nb := ⟨_, rfl⟩
    rw [hnbe] at r6 hnb h1 hn
    clear h hE hp hnbe r3 r4 r5
    rcases zb with _ | _
    · exact absurd rfl he
    · rw [if_pos rfl]
      clear he
      go_enter Try.func39, Try.ntmps39
      go_wp2_with fail
      refine HP.out.mono ?_
      rintro e w' ⟨rfl, rfl⟩
      go_wp2
      go_ret
      exact ⟨rfl, rfl⟩
  · have hE : rxE cx k = placeF cx.nb cx.np cx.dn k 0 := by unfold rxE; rw [if_pos hp]
    rw [hE]
    generalize placeF cx.nb cx.np cx.dn k 0 = r at hp HP ⊢
    have q : (r != 0) = true := by simp [hp]
    clear h hp he hE
    go_enter Try.func39, Try.ntmps39
    go_wp2_with fail
    refine HP.out.mono ?_
    rintro e w' ⟨rfl, rfl⟩
    go_wp2
    go_ret
    exact ⟨rfl, rfl⟩

theorem PgX.none {w : World} {X : Nat → Prop} : PgX w X (.slice Option.none 0 0) [] := ⟨Option.none, 0, rfl, Nat.le_refl _, RwX.nil⟩

theorem rxE_zero {c : Rx} {n : Nat} (he : rxE c n = 0) : placeF c.nb c.np c.dn n 0 = 0 ∧ c.bad n = false := by
  unfold rxE at he
  have hp : placeF c.nb c.np c.dn n 0 = 0 := by
    apply Classical.byContradiction
    intro g
    rw [if_pos g] at he
    exact g he
  rw [if_neg (by rw [hp]; exact fun g => g rfl), Int.toNat_natCast] at he
  refine ⟨hp, ?_⟩
  cases hbv : c.bad n with
  | false => rfl
  | true => rw [hbv, if_pos rfl] at he; cases he

set_option maxRecDepth 100000 in
set_option maxHeartbeats 20000000 in
theorem rxerase_yes {w : World} {X : Nat → Prop} {o : Rb} {cx : Rx} (h : RxAt w X o cx) (hfl : cx.fl = []) (n : Nat) (he : rxE cx n = 0) :
    Calls Try.prog 39 #[.pointer (some ⟨o.g, 0, none⟩), .int .i64 n] w fun e w' => e = .returned (.int .i64 0) ∧ RxAt w' X o (rxEC cx n) ∧ Kp o.F w w' := by
  have hS := rxstroke_any h hfl
  obtain ⟨hp, hbd⟩ := rxE_zero he
  unfold rxEC
  unfold rxS at *
  obtain ⟨nb, np, sz, pg, nx, br, bad, wea, fl, si, dn, st, rd⟩ := cx
  dsimp only at hp hbd hS ⊢
  have hrc := h.rc
  dsimp only at hrc
  have HP := Lib.hid (rplace_any hrc n 0)
  rw [hp] at HP
  obtain ⟨-, h0, h1, h2, h3⟩ := placeF_ok hp
  have hn : n < nb := by omega
  have hnb : nb < 129 := h.good.2.1
  have hnp : np < 33 := h.good.2.2.2.1
  have hsz : sz ≤ 512 := by have := h.good; unfold Gd at this; dsimp only at this; omega
  have hn0 : (0 : Int) ≤ (n : Int) := by omega
  have hn1 : (n : Int) < (nb : Int) := by omega
  obtain ⟨r3, r4, r5, r6, -⟩ := hrc.rows
  obtain ⟨-, -, cb, -⟩ := h.row (k := n) hn
  dsimp only at cb
  rw [hbd] at cb
  have HS := Lib.hid hS
  have H := Lib.hid h
  clear h hp h0 h1 h2 h3 hbd he hS hrc hfl
  go_enter Try.func39, Try.ntmps39
  go_wp2_with fail
  refine HP.out.mono ?_
  rintro e w' ⟨rfl, rfl⟩
  go_wp2_with fail
  refine HS.out.mono ?_
  rintro r w1 ⟨rfl, hch, hkp⟩
  have C2 := Lib.hid (hch.below ((Below.refl _ _).alloc (Nat.le_refl _) (.cells #[.int .i64 0, .int .i64 0, .slice none 0 0] 66)))
  have K2 := Lib.hid (hkp.alloc (.cells #[.int .i64 0, .int .i64 0, .slice none 0 0] 66))
  have B2 := Lib.hid (Blk.new w1 66 #[.int .i64 0, .int .i64 0, .slice none 0 0])
  obtain ⟨y0, y1, y2, y3, y4, y5⟩ := hch.rc.gfar
  clear hch hkp HS H r3 r4 r5 r6 cb
  go_upto_region 7 with (fail)
  generalize (w1.alloc (.cells #[.int .i64 0, .int .i64 0, .slice none 0 0] 66)) = W at C2 K2 B2 ⊢
  generalize w1.heap.size = fb at B2 y0 y1 y2 y3 y4 y5 ⊢
  have c1 : W.cell? ⟨fb, 1, none⟩ = some (.int .i64 0) := B2.out.cell 1
  have hC2 := C2.out.rc
  dsimp only at hC2
  obtain ⟨-, -, -, -, r7⟩ := hC2.rows
  obtain ⟨-, -, -, c7⟩ := C2.out.row (k := n) hn
  dsimp only at c7
  have f7 := (hC2.froz n).2.2.2.2.2
  generalize hz7 : wea n = z7 at c7
  have C3 := Lib.hid ((C2.out.putv (i := n) hn (wrap64 (z7 + 1))).below (Below.refl _ _).drew)
  have K3 := Lib.hid (kp_set (i := n) (u := .int .i64 (wrap64 (z7 + 1))) K2.out (q := o.v) (by simp [Rb.F])).drew
  have B3 := Lib.hid (show Blk (W.setCell ⟨o.v, n, none⟩ (.int .i64 (wrap64 (z7 + 1)))).drew fb 66 _ from B2.out.far (p := ⟨o.v, n, none⟩) (show fb ≠ o.v by omega) (.int .i64 (wrap64 (z7 + 1))))
  have HZ7 := Lib.hid hz7
  clear hz7
  have hvg : o.v ≠ o.g := fun e => C2.out.ne.2.2.2.2.1 e.symm
  go_upto_region 10 with (fail)
  go_region
  generalize (W.setCell ⟨o.v, n, none⟩ (.int .i64 (wrap64 (z7 + 1)))).drew = W3 at C3 K3 B3 ⊢
  clear c1 r7 c7 f7 C2 K2 B2 hC2
  have c1 : W3.cell? ⟨fb, 1, none⟩ = some (.int .i64 0) := B3.out.cell 1
  go_wp2_with fail
  have C3' : Hid (RxAt W3 X o ⟨nb, np, sz, clr pg (n * np) 0, nx, br, bad, up1 wea n (wrap64 (z7 + 1)), fl, wrap64 (si + 1), dn, wrap64 (st + 1), rd⟩) := Lib.hid (by rw [clr_zero]; exact C3.out)
  go_loopw [8] (fun i wr => ∃ k : Nat, k ≤ np ∧ i = .int .i64 k ∧ Hid (RxAt wr X o ⟨nb, np, sz, clr pg (n * np) k, nx, br, bad, up1 wea n (wrap64 (z7 + 1)), fl, wrap64 (si + 1), dn, wrap64 (st + 1), rd⟩) ∧ Hid (Kp o.F w wr) ∧ Hid (Blk wr fb 66 #[.int .i64 0, .int .i64 0, .slice none 0 0])) (fun i _ => np - (intOf i).toNat)
  case atStart => exact ⟨0, by omega, rfl, C3', K3, B3⟩
  case round =>
    obtain ⟨k, hk, rfl, hC, hK, hB⟩ := hrel
    have hCr := hC.out.rc
    dsimp only at hCr
    obtain ⟨-, g1, g2, -, -⟩ := hCr.geo
    clear C3 C3' K3 B3 c1
    by_cases hlt : k < np
    · have kl : (k : Int) < (np : Int) := by omega
      obtain ⟨P, N, I, hP, hN, hI, hPw, hIw, hIN, hN4, hi0, hi1⟩ := page_no hn hlt hnb hnp
      obtain ⟨r3, -, -, -, -⟩ := hCr.rows
      rw [hN] at r3
      obtain ⟨A3, l3, k3, hp3, -, -⟩ := hCr.page (i := I) (by rw [hN]; exact hIN)
      have hf3 := (hCr.froz I).2.1
      have C4 := hC.out.putp (i := I) (by show I < nb * np; rw [hN]; exact hIN) (PgX.none)
      rw [← hI] at C4
      dsimp only at C4
      rw [clr_succ, hI] at C4
      have C4' := Lib.hid C4
      have K4 := Lib.hid (kp_set (i := I) (u := .slice none 0 0) hK.out (q := o.p) (by simp [Rb.F]))
      have B4 := Lib.hid (hB.out.far (p := ⟨o.p, I, none⟩) (show fb ≠ o.p by omega) (.slice none 0 0))
      clear hP hN hI C4 hCr
      go_wp2
      go_roundw
      case rel => exact ⟨k + 1, by omega, by go_num, C4', K4, B4⟩
      case measure => simp [intOf]; omega
    · have kl : ¬ (k : Int) < (np : Int) := by omega
      have hkn : k = np := by omega
      obtain ⟨-, r4, r5, -, -⟩ := hCr.rows
      obtain ⟨⟨z4, c4⟩, ⟨z5, c5⟩, -, -⟩ := hCr.row hn
      obtain ⟨-, -, f4, f5, -, -⟩ := hCr.froz n
      obtain ⟨c10, f10⟩ := hCr.down
      have c1 : wr.cell? ⟨fb, 1, none⟩ = some (.int .i64 0) := hB.out.cell 1
      obtain ⟨n1, n2, n3, n4, n5, n6, n7, n8, n9, n10, n11, n12, n13, n14, n15⟩ := hCr.ne
      have hbk : fb ≠ o.k := by omega
      have C5 := hC.out.putk (i := n) hn false
      have K5 := Lib.hid (kp_set (i := n) (u := .bool false) hK.out (q := o.k) (by simp [Rb.F]))
      have C6 := C5.putn (i := n) hn 0
      dsimp only at C6
      rw [hkn, ← HZ7.out] at C6
      have C6' := Lib.hid C6
      have K6 := Lib.hid (kp_set (i := n) (u := .int .i64 0) K5.out (q := o.n) (by simp [Rb.F]))
      clear C5 C6 hCr
      go_wp2
      go_ret
      exact ⟨rfl, C6'.out, K6.out⟩

end Go.Proofs.Ytiaaeiefgnoiaaa
