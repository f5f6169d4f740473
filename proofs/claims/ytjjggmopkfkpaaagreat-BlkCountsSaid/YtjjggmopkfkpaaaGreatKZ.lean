/-
  The document's manager: a page programmed. Nothing of one statement alone stands here.
-/
import Derived.Test.YtjjggmopkfkpaaaGreatKX
import Derived.Test.YtjjggmopkfkpaaaGreatKT
namespace Go.Proofs.YtjjggmopkfkpaaaGreat
open Go.RowKit Crcm Go.ChangeShapes

/-- what a programming leaves -/
def RmP (w : World) (X : Nat → Prop) (o : Rb) (q : Rq) (nb np sz : Nat) (e : Ending) (w' : World) : Prop :=
  (∃ r s t : Int, e = .returned (.tuple #[.int .i64 r, .int .i64 s, .int .i64 t])) ∧ (∃ dn, RmAt w' X o q nb np sz dn) ∧ Kp (RmF o q) w w'

set_option maxRecDepth 100000 in
set_option maxHeartbeats 4000000 in
theorem rmprog_any {w : World} {X : Nat → Prop} {o : Rb} {q : Rq} {nb np sz : Nat} {dn : Bool} (h : RmAt w X o q nb np sz dn) (A : Option Addr) (m c : Nat) (l : List Int) (hr : RwX w X A l) (hl : l.length = m) :
    Calls Tryz.prog 10 #[.pointer (some ⟨q.d, 0, none⟩), .slice A m c] w (RmP w X o q nb np sz) := by
  obtain ⟨c0, c1, c2, c3⟩ := h.cells
  obtain ⟨-, -, g2, cd, -⟩ := h.chip.geo
  have hnb : nb < 129 := h.chip.good.2.1
  have hsz := h.chip.good.2.2.2.2
  have hm9 : m ≤ 9223372036854775807 := by have := hr.1.2.1; unfold maxLen at this; omega
  have HH := Lib.hid h
  have HRw := Lib.hid hr
  have HL := Lib.hid hl
  have hw0 : wrap64 ((sz : Int) + 32) = ((sz + 32 : Nat) : Int) := by
    rw [IntWalk.wrap64_in _ ⟨by omega, by omega⟩]
    rfl
  clear h hr hl
  cases dn
  case true =>
    go_enter Tryz.func10, Tryz.ntmps10
    go_wp2
    go_ret3
    exact ⟨⟨0, 0, 4, rfl⟩, ⟨true, HH.out⟩, Kp.refl _ _⟩
  by_cases hmm : m = sz + 32
  case neg =>
    have t0 : ((m : Int) != wrap64 ((sz : Int) + 32)) = true := by rw [hw0]; simp; omega
    clear hw0 hsz hmm
    go_enter Tryz.func10, Tryz.ntmps10
    go_wp2
    go_ret3
    exact ⟨⟨0, 0, 1, rfl⟩, ⟨false, HH.out⟩, Kp.refl _ _⟩
  have t0 : ((m : Int) != wrap64 ((sz : Int) + 32)) = false := by rw [hw0]; simp; omega
  have T9 : Hid (((m : Int) != (sz : Int) + 32) = false) := Lib.hid (by simp; omega)
  clear hw0 hsz hmm
  go_enter Tryz.func10, Tryz.ntmps10
  go_wp2_with fail
  go_loopw [7] (fun i wr => ∃ (k : Nat) (dn : Bool), k ≤ nb + 1 ∧ i = .int .i64 k ∧ Hid (RmAt wr X o q nb np sz dn) ∧ Hid (Kp (RmF o q) w wr)) (fun i _ => nb + 1 - (intOf i).toNat)
  case atStart => exact ⟨0, false, by omega, rfl, HH, Lib.hid (Kp.refl _ _)⟩
  case round =>
    clear c0 c1 c2 c3 g2 cd HH t0
    obtain ⟨k, dn, hk, rfl, hA, hK⟩ := hrel
    obtain ⟨c0, c1, c2, c3⟩ := hA.out.cells
    by_cases hlt : k ≤ nb
    case neg =>
      have kl : ¬ ((k : Int) ≤ (nb : Int)) := by omega
      go_wp2
      go_ret3
      exact ⟨⟨0, 0, 40, rfl⟩, ⟨dn, hA.out⟩, hK.out⟩
    have kl : (k : Int) ≤ (nb : Int) := by omega
    have HO := Lib.hid (ropened_any hA.out)
    go_wp2_with fail
    refine HO.out.mono ?_
    rintro e w' ⟨⟨x, rfl, hx1, hx2⟩, rfl⟩
    by_cases hx : x < 0
    · have t1 : decide (x < 0) = true := decide_eq_true hx
      have HBg := Lib.hid (rbegin_any hA.out)
      clear HO
      go_wp2_with fail
      refine HBg.out.mono ?_
      rintro e w2 ⟨⟨x2, rfl, hy1, hy2⟩, hm2, hk2⟩
      have HA2 := Lib.hid hm2
      have HK2 := Lib.hid (hK.out.trans hk2)
      clear hm2 hk2 HBg hA hK c0 c1 c2 c3
      by_cases hxx : x2 < 0
      · have t2 : decide (x2 < 0) = true := decide_eq_true hxx
        go_wp2
        go_ret3
        exact ⟨⟨0, 0, 40, rfl⟩, ⟨dn, HA2.out⟩, HK2.out⟩
      obtain ⟨p, rfl⟩ : ∃ p : Nat, x2 = p := ⟨x2.toNat, by omega⟩
      have hpn : p < nb := by omega
      have pnl : (p : Int) < (nb : Int) := by omega
      have p0 : ¬ ((p : Int) < 0) := by omega
      obtain ⟨c0, c1, c2, c3⟩ := HA2.out.cells
      obtain ⟨u, hu⟩ := HA2.out.nx.cell hpn
      have HP := Lib.hid (rprogram_any HA2.out.chip p u A m c l (HRw.out.kp HK2.out (fun b hb => by
        rcases hb with hb | hb
        · exact HA2.out.chip.inX b hb
        · exact HA2.out.inX b hb)) HL.out)
      go_wp2_with fail
      refine HP.out.mono ?_
      rintro e w3 ⟨⟨E, rfl⟩, ⟨dn3, hc3⟩, hk3⟩
      have HA3 := Lib.hid (HA2.out.chipped hk3 hc3)
      have HK3 := Lib.hid (HK2.out.trans (hk3.mono (fun b hb => show RmF o q b from .inl hb)))
      clear hc3 hk3 HP HA2 HK2 c0 c1 c2 c3 hu
      have HC := Lib.hid (rclose_any HA3.out p hpn)
      by_cases e10 : E = 10
      · subst e10
        go_wp2_with fail
        refine HC.out.mono ?_
        rintro e w4 ⟨rfl, hm4, hk4⟩
        have HA4 := Lib.hid hm4
        have HK4 := Lib.hid (HK3.out.trans hk4)
        clear hm4 hk4 HC HA3 HK3
        go_wp2_with fail
        go_roundw
        case rel => exact ⟨k + 1, dn3, by omega, by go_num, HA4, HK4⟩
        case measure => simp [intOf]; omega
      have v10 : (E == 10) = false := by simpa using e10
      by_cases e11 : E = 11
      · subst e11
        go_wp2_with fail
        refine HC.out.mono ?_
        rintro e w4 ⟨rfl, hm4, hk4⟩
        have HA4 := Lib.hid hm4
        have HK4 := Lib.hid (HK3.out.trans hk4)
        clear hm4 hk4 HC HA3 HK3
        go_wp2
        go_ret3
        exact ⟨⟨_, _, _, rfl⟩, ⟨dn3, HA4.out⟩, HK4.out⟩
      have v11 : (E == 11) = false := by simpa using e11
      by_cases e0 : E = 0
      case neg =>
        have v0 : (E != 0) = true := by simpa using e0
        go_wp2
        go_ret3
        exact ⟨⟨_, _, _, rfl⟩, ⟨dn3, HA3.out⟩, HK3.out⟩
      subst e0
      clear HC v10 v11 e10 e11
      obtain ⟨c0, c1, c2, c3⟩ := HA3.out.cells
      obtain ⟨u3, hu3⟩ := HA3.out.nx.cell hpn
      have f3 := HA3.out.nx.froz p
      have HA4 := Lib.hid (HA3.out.putn p (wrap64 (u + 1)))
      have HK4 := Lib.hid (kpq (i := p) (u := .int .i64 (wrap64 (u + 1))) HK3.out (.inr (.inr (.inr rfl))))
      clear HA3 HK3
      go_upto_region 23 with (fail)
      generalize (w3.setCell ⟨q.n, p, none⟩ (.int .i64 (wrap64 (u + 1)))) = w4 at HA4 HK4 ⊢
      clear c0 c1 c2 c3 hu3 f3
      obtain ⟨c0, c1, c2, c3⟩ := HA4.out.cells
      obtain ⟨y, hy⟩ := HA4.out.lv.cell hpn
      have fy := HA4.out.lv.froz p
      have HA5 := Lib.hid ((HA4.out.putl p (wrap64 (y + 1))).below (Below.refl _ _).drew)
      have HK5 := Lib.hid (kpq (i := p) (u := .int .i64 (wrap64 (y + 1))) HK4.out (.inr (.inr (.inl rfl)))).drew
      clear HA4 HK4
      go_region
      generalize (w4.setCell ⟨q.l, p, none⟩ (.int .i64 (wrap64 (y + 1)))).drew = w5 at HA5 HK5 ⊢
      clear c0 c1 c2 c3 hy fy
      obtain ⟨c0, c1, c2, c3⟩ := HA5.out.cells
      obtain ⟨x, hx⟩ := HA5.out.nx.cell hpn
      obtain ⟨-, g1, -, -, -⟩ := HA5.out.chip.geo
      have l0 := fun m' : Later w5 => m'.cell c0
      have l3 := fun m' : Later w5 => m'.cell c3
      have lx := fun m' : Later w5 => m'.cell hx
      have lg := fun m' : Later w5 => m'.cell g1
      clear c0 c1 c2 c3 hx g1
      by_cases ex : x = (np : Int)
      · subst ex
        go_wp2_with fail
        refine wp_region_later (by kernel_rfl) (by kernel_rfl) ?_
        repeat (go_big_quiet_step (fail))
        refine wpQuiet_nil ?_
        rintro _ ⟨m', rfl⟩
        have HA6 := Lib.hid (HA5.out.below m'.bel)
        have HK6 := Lib.hid (HK5.out.trans (Kp.of_below m'.bel))
        have HC := Lib.hid (rclose_any HA6.out p hpn)
        clear HA5 HK5 l0 l3 lx lg
        go_wp2_with fail
        refine HC.out.mono ?_
        rintro e w7 ⟨rfl, hm7, hk7⟩
        have HA7 := Lib.hid hm7
        have HK7 := Lib.hid (HK6.out.trans hk7)
        clear hm7 hk7 HC HA6 HK6
        go_wp2
        go_ret3
        exact ⟨⟨_, _, _, rfl⟩, ⟨dn3, HA7.out⟩, HK7.out⟩
      · have tx : (x == (np : Int)) = false := by simpa using ex
        go_wp2_with fail
        refine wp_region_later (by kernel_rfl) (by kernel_rfl) ?_
        repeat (go_big_quiet_step (fail))
        refine wpQuiet_nil ?_
        rintro _ ⟨m', rfl⟩
        have HA6 := Lib.hid (HA5.out.below m'.bel)
        have HK6 := Lib.hid (HK5.out.trans (Kp.of_below m'.bel))
        clear HA5 HK5 l0 l3 lx lg
        go_wp2
        go_ret3
        exact ⟨⟨_, _, _, rfl⟩, ⟨dn3, HA6.out⟩, HK6.out⟩
    · obtain ⟨p, rfl⟩ : ∃ p : Nat, x = p := ⟨x.toNat, by omega⟩
      have HA2 := hA
      have HK2 := hK
      clear HO hA hK c0 c1 c2 c3
      have hpn : p < nb := by omega
      have pnl : (p : Int) < (nb : Int) := by omega
      have p0 : ¬ ((p : Int) < 0) := by omega
      obtain ⟨c0, c1, c2, c3⟩ := HA2.out.cells
      obtain ⟨u, hu⟩ := HA2.out.nx.cell hpn
      have HP := Lib.hid (rprogram_any HA2.out.chip p u A m c l (HRw.out.kp HK2.out (fun b hb => by
        rcases hb with hb | hb
        · exact HA2.out.chip.inX b hb
        · exact HA2.out.inX b hb)) HL.out)
      go_wp2_with fail
      refine HP.out.mono ?_
      rintro e w3 ⟨⟨E, rfl⟩, ⟨dn3, hc3⟩, hk3⟩
      have HA3 := Lib.hid (HA2.out.chipped hk3 hc3)
      have HK3 := Lib.hid (HK2.out.trans (hk3.mono (fun b hb => show RmF o q b from .inl hb)))
      clear hc3 hk3 HP HA2 HK2 c0 c1 c2 c3 hu
      have HC := Lib.hid (rclose_any HA3.out p hpn)
      by_cases e10 : E = 10
      · subst e10
        go_wp2_with fail
        refine HC.out.mono ?_
        rintro e w4 ⟨rfl, hm4, hk4⟩
        have HA4 := Lib.hid hm4
        have HK4 := Lib.hid (HK3.out.trans hk4)
        clear hm4 hk4 HC HA3 HK3
        go_wp2_with fail
        go_roundw
        case rel => exact ⟨k + 1, dn3, by omega, by go_num, HA4, HK4⟩
        case measure => simp [intOf]; omega
      have v10 : (E == 10) = false := by simpa using e10
      by_cases e11 : E = 11
      · subst e11
        go_wp2_with fail
        refine HC.out.mono ?_
        rintro e w4 ⟨rfl, hm4, hk4⟩
        have HA4 := Lib.hid hm4
        have HK4 := Lib.hid (HK3.out.trans hk4)
        clear hm4 hk4 HC HA3 HK3
        go_wp2
        go_ret3
        exact ⟨⟨_, _, _, rfl⟩, ⟨dn3, HA4.out⟩, HK4.out⟩
      have v11 : (E == 11) = false := by simpa using e11
      by_cases e0 : E = 0
      case neg =>
        have v0 : (E != 0) = true := by simpa using e0
        go_wp2
        go_ret3
        exact ⟨⟨_, _, _, rfl⟩, ⟨dn3, HA3.out⟩, HK3.out⟩
      subst e0
      clear HC v10 v11 e10 e11
      obtain ⟨c0, c1, c2, c3⟩ := HA3.out.cells
      obtain ⟨u3, hu3⟩ := HA3.out.nx.cell hpn
      have f3 := HA3.out.nx.froz p
      have HA4 := Lib.hid (HA3.out.putn p (wrap64 (u + 1)))
      have HK4 := Lib.hid (kpq (i := p) (u := .int .i64 (wrap64 (u + 1))) HK3.out (.inr (.inr (.inr rfl))))
      clear HA3 HK3
      go_upto_region 23 with (fail)
      generalize (w3.setCell ⟨q.n, p, none⟩ (.int .i64 (wrap64 (u + 1)))) = w4 at HA4 HK4 ⊢
      clear c0 c1 c2 c3 hu3 f3
      obtain ⟨c0, c1, c2, c3⟩ := HA4.out.cells
      obtain ⟨y, hy⟩ := HA4.out.lv.cell hpn
      have fy := HA4.out.lv.froz p
      have HA5 := Lib.hid ((HA4.out.putl p (wrap64 (y + 1))).below (Below.refl _ _).drew)
      have HK5 := Lib.hid (kpq (i := p) (u := .int .i64 (wrap64 (y + 1))) HK4.out (.inr (.inr (.inl rfl)))).drew
      clear HA4 HK4
      go_region
      generalize (w4.setCell ⟨q.l, p, none⟩ (.int .i64 (wrap64 (y + 1)))).drew = w5 at HA5 HK5 ⊢
      clear c0 c1 c2 c3 hy fy
      obtain ⟨c0, c1, c2, c3⟩ := HA5.out.cells
      obtain ⟨x, hx⟩ := HA5.out.nx.cell hpn
      obtain ⟨-, g1, -, -, -⟩ := HA5.out.chip.geo
      have l0 := fun m' : Later w5 => m'.cell c0
      have l3 := fun m' : Later w5 => m'.cell c3
      have lx := fun m' : Later w5 => m'.cell hx
      have lg := fun m' : Later w5 => m'.cell g1
      clear c0 c1 c2 c3 hx g1
      by_cases ex : x = (np : Int)
      · subst ex
        go_wp2_with fail
        refine wp_region_later (by kernel_rfl) (by kernel_rfl) ?_
        repeat (go_big_quiet_step (fail))
        refine wpQuiet_nil ?_
        rintro _ ⟨m', rfl⟩
        have HA6 := Lib.hid (HA5.out.below m'.bel)
        have HK6 := Lib.hid (HK5.out.trans (Kp.of_below m'.bel))
        have HC := Lib.hid (rclose_any HA6.out p hpn)
        clear HA5 HK5 l0 l3 lx lg
        go_wp2_with fail
        refine HC.out.mono ?_
        rintro e w7 ⟨rfl, hm7, hk7⟩
        have HA7 := Lib.hid hm7
        have HK7 := Lib.hid (HK6.out.trans hk7)
        clear hm7 hk7 HC HA6 HK6
        go_wp2
        go_ret3
        exact ⟨⟨_, _, _, rfl⟩, ⟨dn3, HA7.out⟩, HK7.out⟩
      · have tx : (x == (np : Int)) = false := by simpa using ex
        go_wp2_with fail
        refine wp_region_later (by kernel_rfl) (by kernel_rfl) ?_
        repeat (go_big_quiet_step (fail))
        refine wpQuiet_nil ?_
        rintro _ ⟨m', rfl⟩
        have HA6 := Lib.hid (HA5.out.below m'.bel)
        have HK6 := Lib.hid (HK5.out.trans (Kp.of_below m'.bel))
        clear HA5 HK5 l0 l3 lx lg
        go_wp2
        go_ret3
        exact ⟨⟨_, _, _, rfl⟩, ⟨dn3, HA6.out⟩, HK6.out⟩
end Go.Proofs.YtjjggmopkfkpaaaGreat
