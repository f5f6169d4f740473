/-
  What comes out of squeezed bytes: the document's Open. Nothing of one statement alone stands here.
-/
import Derived.Test.YtaohkakefdhecaaSqOpen
import Derived.Deep.QuietTactic
import Derived.BigQuiet
namespace Go.Proofs.Ytaohkakefdhecaa
open Go.RowKit Crcm Sqm Go.ChangeShapes

set_option maxRecDepth 100000 in
set_option maxHeartbeats 2000000 in
theorem ropen_yes (a : Option Addr) (m c most : Nat) (l : List Int) (w : World) (hr : Rw w a l) (hl : l.length = m) (hmc : m ≤ c) (hm : (m : Int) ≤ 4611686018427380000) (hmost : most ≤ 1048576) :
    Calls Try.prog 14 #[.slice a m c, .int .i64 (most : Int)] w fun e w' => (∃ A cap, e = .returned (.tuple #[.slice A (oO l most).length cap, .int .i64 (oE l most)]) ∧ (oO l most).length ≤ cap ∧ Rw w' A (oO l most)) ∧ Below w.heap.size w w' := by
  have hdec : decide ((1048576 : Int) < (most : Int)) = false := by simp; omega
  have hneg : decide ((most : Int) < 0) = false := by simp
  have hmI : (most : Int) ≤ 4611686018427387903 := by omega
  have HM := Lib.hid hmost
  have HL := Lib.hid hl
  have HR := Lib.hid hr
  have HU := Lib.hid hr.1
  clear hmost hr
  go_enter Try.func14, Try.ntmps14
  go_wp2_with fail
  go_loopw [6, 7] (fun s6 s7 wr => ∃ k p n : Nat, ∃ A cp, s7 = .int .i64 (p : Int) ∧ s6 = .slice A n cp ∧ p ≤ m ∧ Hid (p = pl l k) ∧ Hid (k ≤ kn l) ∧ Hid ((ou l k).length = n) ∧ Hid (fe l most k = 0) ∧ Hid (wr.ownsRow w.heap.size 5 1 (.slice A n cp) n ((ou l k).map (Value.int .u8))) ∧ Hid (Below w.heap.size w wr)) (fun _ s7 _ => m - (intOf s7).toNat)
  case atStart => exact ⟨0, 0, 0, none, 0, rfl, rfl, by omega, Lib.hid rfl, Lib.hid (Nat.zero_le _), Lib.hid rfl, Lib.hid rfl, Lib.hid (World.ownsRow_nil _ _ _ _), Lib.hid (Below.refl _ _)⟩
  case round =>
    obtain ⟨k, p, n, A, cp, rfl, rfl, hp, hpk, hk, hn, hfe, hO, hB⟩ := hrel
    by_cases hlt : p < m
    · have hRw := HR.out.below hB.out
      obtain ⟨b, off, rfl⟩ := hRw.addr (by omega)
      obtain ⟨cb, h256⟩ := hRw.byte (j := p) (by omega)
      have hnm : n ≤ most := by rw [← hn.out]; exact ou_len hfe.out
      have hnI : (n : Int) ≤ 4611686018427387903 := by omega
      have hkn : k < kn l := kn_lt hk.out (by rw [← hpk.out, hl]; exact hlt)
      have HKN := Lib.hid hkn
      have HF1 : Hid (fe l most (k + 1) = er l most p n) := Lib.hid (by rw [fe_at hfe.out, ← hpk.out, hn.out])
      have HErr : Hid (er l most p n ≠ 0 → oE l most = er l most p n ∧ oO l most = []) := Lib.hid (fun h => by
        have := oE_err (l := l) (most := most) (k := k + 1) HKN.out (by rw [HF1.out]; exact h)
        rw [HF1.out] at this; exact this)
      have hltI : (p : Int) < (m : Int) := by omega
      by_cases h8 : ba l p < 128
      · have e1 : sz l p = ba l p + 2 := by unfold sz; rw [if_pos h8]
        have e2 : cnt l p = ba l p + 1 := by unfold cnt; rw [if_pos h8]
        have e3 : fit l p n = true := decide_eq_true (.inl h8)
        by_cases hw : p + (ba l p + 2) ≤ m
        · have hwh : wh l p = true := decide_eq_true (by rw [e1, hl]; exact hw)
          by_cases hm2 : n + (ba l p + 1) ≤ most
          · have HE0 : Hid (er l most p n = 0) := Lib.hid (er_ok.2 ⟨hwh, e3, by rw [e2]; exact hm2⟩)
            have HPl : Hid (pl l (k + 1) = p + (ba l p + 2)) := Lib.hid (by rw [pl_wh (by rw [← hpk.out]; exact hwh), ← hpk.out, e1])
            have HOu : Hid (ou l (k + 1) = ou l k ++ (l.drop (p + 1)).take (ba l p + 1)) := Lib.hid (by rw [ou, ← hpk.out, Sqm.put, if_pos h8])
            have HSrc := Lib.hid (((hRw.drop (p + 1) (a' := some ⟨b, off + (p + 1), none⟩) (fun b' o' e _ => by injection e with e; injection e with e1 e2; subst e1 e2; rfl)).take (ba l p + 1)).src)
            have HLs : Hid (((l.drop (p + 1)).take (ba l p + 1)).length = p + ba l p + 1 - p) := Lib.hid (by rw [List.length_take, List.length_drop, hl]; omega)
            generalize ba l p = x at *
            clear e1 e2 e3 hwh hRw hkn HErr hl
            go_wp2_with (at_builtin; refine app8 rfl _ _ rfl w.heap.size _ n _ rfl hO.out (some ⟨b, off + (p + 1), none⟩) (p + x + 2 - (p + 1)) (c - (p + 1)) ((l.drop (p + 1)).take (x + 1)) rfl (by rw [HLs.out]; omega) HSrc.out (by have := HM.out; omega) hB.out.size ?_; intro v' w' hown' hb' _ _)
            obtain ⟨A2, c2, rfl⟩ := own_slice hown'
            rw [← HOu.out] at hown'
            have HO2 := Lib.hid hown'
            have HB2 := Lib.hid (hB.out.trans hb')
            have HLn : Hid ((ou l (k + 1)).length = n + (p + x + 2 - (p + 1))) := Lib.hid (by have := hown'.1; rw [List.length_map] at this; omega)
            clear hown' hb'
            go_wp2
            go_roundw
            case rel => exact ⟨k + 1, p + (x + 2), n + (p + x + 2 - (p + 1)), A2, c2, by go_num, rfl, by omega, Lib.hid HPl.out.symm, Lib.hid HKN.out, HLn, Lib.hid (by rw [HF1.out]; exact HE0.out), HO2, HB2⟩
            case measure => simp [intOf]; omega
          · have HE := Lib.hid (HErr.out (by unfold er; rw [if_pos ⟨hwh, e3⟩, if_neg (by rw [e2]; exact hm2)]; decide))
            have HE2 : Hid (er l most p n = 2) := Lib.hid (by unfold er; rw [if_pos ⟨hwh, e3⟩, if_neg (by rw [e2]; exact hm2)])
            generalize ba l p = x at *
            have hm3 : (most : Int) < (n : Int) + (x : Int) + 1 := by omega
            clear e1 e2 e3 hwh hRw hkn HErr hl hm2
            go_wp2
            go_ret2
            rw [HE.out.1, HE.out.2, HE2.out]
            exact ⟨⟨none, 0, rfl, Nat.le_refl _, Rw.nil⟩, hB.out⟩
        · have hwh : wh l p = false := decide_eq_false (by rw [e1, hl]; exact hw)
          have HE2 : Hid (er l most p n = 50) := Lib.hid (er_no (by rw [hwh]; simp))
          have HE := Lib.hid (HErr.out (by rw [HE2.out]; decide))
          generalize ba l p = x at *
          have hm3 : (m : Int) < (p : Int) + (x : Int) + 2 := by omega
          clear e1 e2 e3 hwh hRw hkn HErr hl hw
          go_wp2
          go_ret2
          rw [HE.out.1, HE.out.2, HE2.out]
          exact ⟨⟨none, 0, rfl, Nat.le_refl _, Rw.nil⟩, hB.out⟩
      · have e1 : sz l p = 3 := by unfold sz; rw [if_neg h8]
        have e2 : cnt l p = ba l p - 125 := by unfold cnt; rw [if_neg h8]
        have h9 : ¬ ((ba l p : Nat) : Int) < 128 := by omega
        by_cases hw : p + 3 ≤ m
        · have hwh : wh l p = true := decide_eq_true (by rw [e1, hl]; exact hw)
          have e3 : far l p = ba l (p + 1) + 256 * ba l (p + 2) := by unfold far; rw [if_neg h8]
          obtain ⟨c1, g1⟩ := hRw.byte (j := p + 1) (by omega)
          obtain ⟨c2, g2⟩ := hRw.byte (j := p + 2) (by omega)
          have e5 : (ba l (p + 1) : Int) + 256 * (ba l (p + 2) : Int) = ((far l p : Nat) : Int) := by rw [e3]; omega
          have hD : far l p < 65536 := by omega
          have hnw : ¬ (m : Int) < (p : Int) + 3 := by omega
          have hfitI : fit l p n = decide (1 ≤ far l p ∧ far l p ≤ n) := by unfold fit; congr 1; apply propext; simp [h8]
          obtain ⟨D, hDe⟩ : ∃ D, far l p = D := ⟨_, rfl⟩
          rw [hDe] at e3 e5 hD hfitI
          have hfarD := Lib.hid hDe
          clear hDe
          by_cases hf : 1 ≤ D ∧ D ≤ n
          · have e6 : fit l p n = true := by rw [hfitI]; exact decide_eq_true hf
            have q0 : D < n + 1 := by omega
            have q1 : ¬ ((D : Nat) : Int) = 0 := by omega
            have q1' : (((D : Nat) : Int) == 0) = false := by simp; omega
            have q2 : ¬ (n : Int) < (D : Int) := by omega
            obtain ⟨C, hC⟩ : ∃ C, cnt l p = C := ⟨_, rfl⟩
            have hCx : ((ba l p : Nat) : Int) = (C : Int) + 125 := by omega
            have hC3 : 3 ≤ C := by omega
            have hC130 : C ≤ 130 := by omega
            by_cases hm2 : n + C ≤ most
            · have HE0 : Hid (er l most p n = 0) := Lib.hid (er_ok.2 ⟨hwh, e6, by rw [hC]; exact hm2⟩)
              have HPl : Hid (pl l (k + 1) = p + 3) := Lib.hid (by rw [pl_wh (by rw [← hpk.out]; exact hwh), ← hpk.out, e1])
              have HOu : Hid (ou l (k + 1) = cpy (ou l k) D C) := Lib.hid (by rw [ou, ← hpk.out, Sqm.put, if_neg h8, hC, hfarD.out])
              have hd1 : 1 ≤ D := hf.1
              have hdn : D ≤ n := hf.2
              have hm3 : ¬ (most : Int) < (n : Int) + ((C : Int) + 125) - 125 := by omega
              rw [hCx] at cb h9
              generalize ba l p = x at *
              generalize ba l (p + 1) = x1 at *
              generalize ba l (p + 2) = x2 at *
              have HON := hn
              clear e1 e2 e3 e6 hwh hRw hkn HErr hl hfitI h8 hf h256 hCx hC
              go_wp2_with fail
              go_region
              go_wp2_with fail
              go_loopw [6, 10] (fun s6 s10 W => ∃ j q : Nat, ∃ A2 c2, j ≤ C ∧ s10 = .int .i64 (j : Int) ∧ s6 = .slice A2 q c2 ∧ Hid (q = n + j) ∧ Hid (W.ownsRow w.heap.size 5 1 (.slice A2 q c2) q ((cpy (ou l k) D j).map (Value.int .u8))) ∧ Hid (Below w.heap.size w W)) (fun _ s10 _ => C - (intOf s10).toNat)
              case atStart => exact ⟨0, n, A, cp, by omega, rfl, rfl, Lib.hid rfl, Lib.hid (own_below hO.out ((Below.refl _ _).drew)), Lib.hid hB.out.drew⟩
              case round =>
                obtain ⟨j, q, A2, cp2, hj, rfl, rfl, hq, hO2, hB2⟩ := hrel
                by_cases hjC : j < C
                · obtain ⟨A', cp', he, hRw2, -, -⟩ := Rw.of_own hO2.out (cpy_U8 (ou_U8 HU.out k) j)
                  injection he with e1 _ e3
                  subst e1 e3
                  have hlen : (cpy (ou l k) D j).length = q := by have := cpy_length (ou l k) D j; have := hn.out; have := hq.out; omega
                  have hqq := hq.out
                  obtain ⟨r, hr⟩ : ∃ r, r = q - D := ⟨_, rfl⟩
                  obtain ⟨g, off2, rfl⟩ := hRw2.addr (by omega)
                  obtain ⟨hcell, h256⟩ := hRw2.byte (j := r) (by omega)
                  have e1 : (q : Int) - (D : Int) = (r : Int) := by omega
                  have HX : Hid (cpy (ou l k) D (j + 1) = cpy (ou l k) D j ++ [(ba (cpy (ou l k) D j) r : Int)]) := Lib.hid (by
                    rw [cpy, hlen, ← hr]
                    congr 2
                    unfold ba
                    have : U8 ((cpy (ou l k) D j).getD r 0) := hRw2.1 _ (by rw [List.getD_eq_getElem?_getD, List.getElem?_eq_getElem (by omega : r < (cpy (ou l k) D j).length)]; exact List.getElem_mem _)
                    unfold U8 at this
                    omega)
                  generalize ba (cpy (ou l k) D j) r = y at hcell h256 HX
                  have hx8 : U8 (y : Int) := by unfold U8; omega
                  have qm : r < q := by omega
                  have hbz := hB2.out.size
                  have jN : (j : Int) < (C : Int) := by omega
                  have jN2 : (j : Int) < (C : Int) + 125 - 125 := by omega
                  have hr62 : (r : Int) ≤ 4611686018427387903 := by omega
                  clear hRw2 hlen hr hqq
                  go_wp2_with (at_builtin; refine app8 rfl _ _ rfl w.heap.size _ q _ rfl (hO2.out.alloc _) (some ⟨wr.heap.size, 0, none⟩) 1 1 [(y : Int)] rfl rfl (rw_one wr _ hx8).src (by have := hq.out; have := HM.out; omega) (by simp; omega) ?_; intro v' w' hown' hb' _ _)
                  rw [← HX.out] at hown'
                  obtain ⟨A3, c3, rfl⟩ := own_slice hown'
                  have HO3 := Lib.hid hown'
                  have HB3 : Hid (Below w.heap.size w w') := Lib.hid ((hB2.out.alloc hbz _).trans hb')
                  clear hown' hb'
                  go_wp2
                  go_roundw
                  case rel => exact ⟨j + 1, by omega, by go_num, q + 1, A3, c3, rfl, Lib.hid (by have := hq.out; omega), HO3, HB3⟩
                  case measure => simp [intOf]; omega
                · have hjj : j = C := by omega
                  subst hjj
                  have jN2 : ¬ (j : Int) < (j : Int) + 125 - 125 := by omega
                  have hqq := hq.out
                  subst hqq
                  have HLn : Hid ((ou l (k + 1)).length = n + j) := Lib.hid (by rw [HOu.out, cpy_length, hn.out])
                  have HO4 : Hid (wr.ownsRow w.heap.size 5 1 (.slice A2 (n + j) cp2) (n + j) ((ou l (k + 1)).map (Value.int .u8))) := Lib.hid (by rw [HOu.out]; exact hO2.out)
                  go_wp2
                  go_roundw
                  case rel => exact ⟨k + 1, p + 3, n + j, A2, cp2, by go_num, rfl, by omega, Lib.hid HPl.out.symm, Lib.hid HKN.out, HLn, Lib.hid (by rw [HF1.out]; exact HE0.out), HO4, hB2⟩
                  case measure => simp [intOf]; omega
            · have HE2 : Hid (er l most p n = 2) := Lib.hid (by unfold er; rw [if_pos ⟨hwh, e6⟩, if_neg (by rw [hC]; exact hm2)])
              have HE := Lib.hid (HErr.out (by rw [HE2.out]; decide))
              have hm3 : (most : Int) < (n : Int) + ((C : Int) + 125) - 125 := by omega
              rw [hCx] at cb h9
              generalize ba l p = x at *
              generalize ba l (p + 1) = x1 at *
              generalize ba l (p + 2) = x2 at *
              clear e1 e2 e3 e6 hwh hRw hkn HErr hl hf hfitI h8 hm2 h256 hCx
              go_wp2_with fail
              go_region
              go_wp2
              go_ret2
              rw [HE.out.1, HE.out.2, HE2.out]
              exact ⟨⟨none, 0, rfl, Nat.le_refl _, Rw.nil⟩, hB.out.drew⟩
          · have HE2 : Hid (er l most p n = 50) := Lib.hid (er_no (by rw [hfitI]; simp [hf]))
            have HE := Lib.hid (HErr.out (by rw [HE2.out]; decide))
            generalize ba l p = x at *
            generalize ba l (p + 1) = x1 at *
            generalize ba l (p + 2) = x2 at *
            by_cases hD0 : D = 0
            · subst hD0
              clear e1 e2 e3 hwh hRw hkn HErr hl hf hfitI h8
              go_wp2_with fail
              go_region
              go_wp2
              go_ret2
              rw [HE.out.1, HE.out.2, HE2.out]
              exact ⟨⟨none, 0, rfl, Nat.le_refl _, Rw.nil⟩, hB.out.drew⟩
            · have q1 : ¬ ((D : Nat) : Int) = 0 := by omega
              have q1' : (((D : Nat) : Int) == 0) = false := by simp; omega
              have q2 : (n : Int) < (D : Int) := by omega
              clear e1 e2 e3 hwh hRw hkn HErr hl hf hfitI h8 hD0
              go_wp2_with fail
              go_region
              go_wp2
              go_ret2
              rw [HE.out.1, HE.out.2, HE2.out]
              exact ⟨⟨none, 0, rfl, Nat.le_refl _, Rw.nil⟩, hB.out.drew⟩
        · have hwh : wh l p = false := decide_eq_false (by rw [e1, hl]; exact hw)
          have HE2 : Hid (er l most p n = 50) := Lib.hid (er_no (by rw [hwh]; simp))
          have HE := Lib.hid (HErr.out (by rw [HE2.out]; decide))
          generalize ba l p = x at *
          have hm3 : (m : Int) < (p : Int) + 3 := by omega
          clear e1 e2 hwh hRw hkn HErr hl hw h8
          go_wp2
          go_ret2
          rw [HE.out.1, HE.out.2, HE2.out]
          exact ⟨⟨none, 0, rfl, Nat.le_refl _, Rw.nil⟩, hB.out⟩
    · have hkl : k = kn l := by
        have h1 : ¬ k < kn l := fun h => by have := pl_lt h; rw [← hpk.out, hl] at this; omega
        have := hk.out; omega
      have HE : Hid (oE l most = 0 ∧ oO l most = ou l k) := Lib.hid (by
        have h0 : oE l most = 0 := by unfold oE; rw [← hkl]; exact hfe.out
        exact ⟨h0, by unfold oO; rw [if_pos h0, hkl]⟩)
      have hnI : ¬ (p : Int) < (m : Int) := by omega
      clear hkl hl
      go_wp2
      go_ret2
      obtain ⟨A', cp', he, hRw, -, hcap⟩ := Rw.of_own hO.out (ou_U8 HU.out k)
      injection he with e1 _ e3
      subst e1 e3
      rw [HE.out.1, HE.out.2, hn.out]
      exact ⟨⟨A, cp, rfl, hcap, hRw⟩, hB.out⟩
end Go.Proofs.Ytaohkakefdhecaa
