/-
  The law HistTorn. Nothing of one statement alone stands here but it.
-/
import Derived.Test.YthngpmiclbbpnaaGreatHistTm
import Derived.Test.YthngpmiclbbpnaaGreatAmongB
import Derived.Laws.OwnMore
import Derived.RegionTactic
import Derived.ChangeAlike
namespace Go.Proofs.YthngpmiclbbpnaaGreat
open Go.RowKit Crcm Tagm Go.ChangeShapes

theorem own_baseT {w : World} {base base2 n : Nat} {v : Value} {xs : List Value} {e : TypeId} (h : w.ownsRow base e 1 v n xs) (hb : base2 ≤ base) : w.ownsRow base2 e 1 v n xs := by
  refine ⟨h.1, ?_⟩
  rcases h.2 with h | ⟨g, cap, cur, h1, h2, h3⟩
  · exact .inl h
  · exact .inr ⟨g, cap, cur, h1, by omega, h3⟩
theorem own_shapeT {w : World} {base n : Nat} {v : Value} {xs : List Value} {e : TypeId} (h : w.ownsRow base e 1 v n xs) (hn : 0 < n) : ∃ g cap, v = .slice (some ⟨g, 0, none⟩) n cap ∧ base ≤ g ∧ n ≤ cap ∧ cap ≤ maxLen := by
  rcases h.2 with ⟨_, h0⟩ | ⟨g, cap, cur, h, hg, _, hc, hm, _⟩
  · rw [h0] at h; have := h.1; simp at this; omega
  · exact ⟨g, cap, h, hg, hc, hm⟩

set_option maxRecDepth 100000 in
set_option maxHeartbeats 4000000 in
theorem histTorn_core (a : Option Addr) (n c : Nat) (L : List Ho) (at_ : Int) (a1 : Option Addr) (c1 : Nat) (x : List Int) (w : World) (h : HR w a L) (hn : L.length = n) (hn2 : n ≤ maxLen) (hz : ∀ o ∈ L, SzH o)
    (b0 : -9223372036854775808 ≤ at_) (b1 : at_ ≤ 9223372036854775807) (hr : Rw w a1 x) :
    Calls Tryz.prog 3 #[.slice a n c, .int .i64 at_, .slice a1 x.length c1] w fun e w' => e = .returned (.bool true) ∧ Below w.heap.size w w' := by
  have HSz := Lib.hid (rsize_any a n c L w h hn hn2 hz)
  have HKn := Lib.hid (fun W => knownH_any W)
  have HZ2 : Hid (∀ o ∈ L, o.path.size ≤ maxLen ∧ o.to.size ≤ maxLen ∧ o.b.length ≤ maxLen) := Lib.hid (fun o ho => by have := hz o ho; unfold SzH at this; unfold maxLen; omega)
  have HOff : Hid (∀ o ∈ L, Bw o ∧ -9223372036854775808 ≤ o.off ∧ o.off ≤ 9223372036854775807) := Lib.hid (fun o ho => ⟨h.bw o ho, (hz o ho).2.2.2⟩)
  have HH := Lib.hid h
  have HN := Lib.hid hn
  have HN2 := Lib.hid hn2
  have HR := Lib.hid hr
  have HA := Lib.hid (show -9223372036854775808 ≤ at_ ∧ at_ ≤ 9223372036854775807 from ⟨b0, b1⟩)
  have n9 : x.length ≤ 9223372036854775807 := by have := hr.2.1; unfold maxLen at this; omega
  clear h hn hn2 hz hr b0 b1
  go_enter Tryz.func3, Tryz.ntmps3
  go_wp2_with fail
  refine HSz.out.mono ?_
  rintro e w1 ⟨⟨z, rfl, hzs⟩, hb1⟩
  have HB1 := Lib.hid hb1
  by_cases hbig : 20000 < z ∨ 4 < x.length
  · have HG : Hid (20000 < z ∨ 4 < x.length) := Lib.hid hbig
    clear hzs hb1
    by_cases hz1 : 20000 < z
    · have t1 : decide ((20000 : Int) < (z : Int)) = true := decide_eq_true (by omega)
      clear hbig hz1
      go_wp2_with fail
      refine (HKn.out _).mono ?_
      rintro e w2 ⟨rfl, hb2⟩
      have HB2 := Lib.hid (HB1.out.trans (hb2.mono HB1.out.size))
      clear hb2
      go_wp2
      go_ret
      exact ⟨rfl, HB2.out⟩
    · have t1 : decide ((20000 : Int) < (z : Int)) = false := decide_eq_false (by omega)
      have t2 : decide ((4 : Int) < (x.length : Int)) = true := decide_eq_true (by omega)
      clear hbig hz1
      go_wp2_with fail
      refine (HKn.out _).mono ?_
      rintro e w2 ⟨rfl, hb2⟩
      have HB2 := Lib.hid (HB1.out.trans (hb2.mono HB1.out.size))
      clear hb2
      go_wp2
      go_ret
      exact ⟨rfl, HB2.out⟩
  have t1 : decide ((20000 : Int) < (z : Int)) = false := decide_eq_false (by omega)
  have t2 : decide ((4 : Int) < (x.length : Int)) = false := decide_eq_false (by omega)
  have hs := hzs (by omega)
  obtain ⟨hs1, hs2⟩ := obs_szs L
  have hob : (obs L).length ≤ 700000 := by omega
  have hnn : n ≤ 1000000 := by have := HN.out; omega
  have H4 : Hid (x.length ≤ 4) := Lib.hid (by omega)
  have HOs := Lib.hid (owns_any a n c L w1 (HH.out.below hb1) HN.out hnn)
  have HOb := Lib.hid hob
  clear hzs hb1 hs hs1 hs2 hob hnn hbig
  go_wp2_with fail
  refine HOs.out.mono ?_
  rintro e w2 ⟨⟨a', cap, rfl, hr⟩, hb2⟩
  have HB2 := Lib.hid (HB1.out.trans (hb2.mono HB1.out.size))
  have HWr := Lib.hid (hwrite_any a' n cap L w2 hr HN.out HN2.out HZ2.out HOb.out)
  clear hr hb2
  go_wp2_with fail
  refine HWr.out.mono ?_
  rintro e w3 ⟨v3, rfl, ho3, hb3⟩
  have HB3 := Lib.hid (HB2.out.trans (hb3.mono HB2.out.size))
  by_cases hw : wE L = 0
  · have hbl : 12 ≤ (wB L).length ∧ (wB L).length ≤ 800000 := by
      unfold wB
      rw [if_pos hw, List.length_append, le_length, body_len]
      have := HOb.out
      omega
    obtain ⟨hb12, hb8⟩ := hbl
    obtain ⟨g, cap3, rfl, hg, hc3, hm3⟩ := own_shapeT ho3 (by omega)
    have HC3 := Lib.hid (show (wB L).length ≤ cap3 ∧ cap3 ≤ maxLen from ⟨hc3, hm3⟩)
    have hgw : w.heap.size ≤ g := Nat.le_trans HB2.out.size hg
    have HTo := Lib.hid (fun (k : Nat) (hk : k + x.length ≤ (wB L).length) => torn_yes HOff.out hw (by have := HOb.out; omega) k x HR.out.1 (by have := H4.out; omega) hk)
    have HU := Lib.hid (wB_U8 HH.out.bw)
    have ho4 := own_baseT ho3 HB2.out.size
    rw [hw]
    obtain ⟨y, hy⟩ : ∃ y, wB L = y := ⟨_, rfl⟩
    rw [hy] at hb12 hb8 hc3 ho4 HC3 HTo HU
    rw [hy]
    have HO := Lib.hid ho4
    obtain ⟨m, hm⟩ : ∃ m, y.length = m := ⟨_, rfl⟩
    rw [hm] at hb12 hb8 HO HC3 HTo
    rw [hm]
    have HM := Lib.hid hm
    obtain ⟨j, hj, hcon⟩ := among_int at_ (m - x.length + 1) ((m : Int) - x.length + 1) (by have := H4.out; omega) HA.out.1 HA.out.2 (by omega) (by omega)
    have HC := Lib.hid hcon
    have HJ : Hid (j + x.length ≤ m) := Lib.hid (by have := H4.out; omega)
    have tm : decide ((m : Int) < 12) = false := decide_eq_false (by omega)
    have hm9 : (m : Int) ≤ 4611686018427387903 := by omega
    clear ho3 ho4 hb3 hg hc3 hm3 hw hm hy hb12 hb8 HWr HSz HOs hj hcon t1 t2
    go_wp2_with fail
    refine (HC.out _).mono ?_
    rintro e w4 ⟨rfl, rfl⟩
    clear HC tm
    go_wp2_with fail
    go_loopw [10, 11] (fun s' i wr => ∃ q : Nat, ∃ t : Bool, q ≤ x.length ∧ i = .int .i64 q ∧ s' = .bool t ∧ Hid (t = al x q) ∧ Hid (wr.ownsRow w.heap.size 5 1 (.slice (some ⟨g, 0, none⟩) m cap3) m ((bu y j x q).map (Value.int .u8))) ∧ Below w.heap.size w wr) (fun _ i _ => x.length - (intOf i).toNat)
    case atStart => exact ⟨0, true, by omega, rfl, rfl, Lib.hid rfl, HO, HB3.out⟩
    case round =>
      obtain ⟨q, t, hq, rfl, rfl, ht, hO, hbel⟩ := hrel
      by_cases hlt : q < x.length
      · obtain ⟨-, -, rfl | ⟨bx, ox, rfl, cx⟩⟩ := HR.out.below hbel
        · simp at hlt
        have cx := cx q hlt
        have hlen : (bu y j x q).length = m := by rw [bu_length, HM.out]
        have hkj : j + q < m := by have := HJ.out; omega
        obtain ⟨d, hd, hde⟩ : ∃ d, wr.cell? ⟨g, j + q, none⟩ = some (.int .u8 d) ∧ Hid (d = (bu y j x q).getD (j + q) 0) := by
          refine ⟨_, ?_, Lib.hid rfl⟩
          rw [hO.out.cellAt (j + q) (by omega), List.getElem?_map]
          simp [hlen, hkj]
        have hf := hO.out.frozenAt (j + q)
        have hst := hO.out.stored (j + q) (.int .u8 (bits .xor .u8 d (x.getD q 0)))
        have e0 : ((bu y j x q).map (Value.int .u8)).set (j + q) (.int .u8 (bits .xor .u8 d (x.getD q 0))) = (bu y j x (q + 1)).map (Value.int .u8) := by
          rw [hde.out, ← List.map_set]; rfl
        rw [e0] at hst
        have exj : x.getD q 0 = x[q] := by simp [hlt]
        rw [exj] at hst
        have HST := Lib.hid hst.1
        have hsm := Lib.hid (al_succ x q hlt)
        clear hst e0 exj hlen
        cases t
        · go_wp2
          go_region
          go_wp2
          go_roundw
          case rel => exact ⟨q + 1, false, by omega, by go_num, rfl, Lib.hid (by rw [hsm.out, ← ht.out]; rfl), HST, (hbel.setCell (p := ⟨g, j + q, none⟩) hgw _).drew⟩
          case measure => simp [intOf]; omega
        · go_wp2
          go_region
          go_wp2
          go_roundw
          case rel => exact ⟨q + 1, x[q] == 0, by omega, by go_num, rfl, Lib.hid (by rw [hsm.out, ← ht.out]; rfl), HST, (hbel.setCell (p := ⟨g, j + q, none⟩) hgw _).drew⟩
          case measure => simp [intOf]; omega
      · have hqx : q = x.length := by omega
        subst hqx
        have hlen : (bu y j x x.length).length = m := by rw [bu_length, HM.out]
        obtain ⟨a4, cap4, ev, hr4, -, -⟩ := Rw.of_own hO.out (bu_U8 _ j x HU.out HR.out.1 _ (Nat.le_refl _))
        injection ev with ev1 _ ev2
        subst ev1 ev2
        have hF := HTo.out j HJ.out
        rw [← ht.out] at hF
        obtain ⟨yy, hyy⟩ : ∃ yy, bu y j x x.length = yy := ⟨_, rfl⟩
        rw [hyy] at hr4 hF hlen
        have HRe := Lib.hid (hread_any _ m cap3 yy wr hr4 hlen HC3.out.1 HC3.out.2)
        have HBW := Lib.hid hbel
        clear hr4 hlen hyy hO hq hlt ht hbel HTo HO
        go_wp2_with fail
        refine HRe.out.mono ?_
        rintro e w5 ⟨v5, rfl, hrt, hb5⟩
        obtain ⟨a5, c5, rfl, -⟩ := hrt.hr
        have HB5 := Lib.hid (HBW.out.trans (hb5.mono HBW.out.size))
        clear hrt hb5 HRe
        cases t
        · rw [show rdE yy = 21 from hF]
          clear hF
          go_wp2_with fail
          refine (HKn.out _).mono ?_
          rintro e w8 ⟨rfl, hb8⟩
          have HB8 := Lib.hid (HB5.out.trans (hb8.mono HB5.out.size))
          clear hb8
          go_wp2
          go_ret
          exact ⟨rfl, HB8.out⟩
        · rw [show rdE yy = 0 from hF]
          clear hF
          go_wp2_with fail
          refine (HKn.out _).mono ?_
          rintro e w8 ⟨rfl, hb8⟩
          have HB8 := Lib.hid (HB5.out.trans (hb8.mono HB5.out.size))
          clear hb8
          go_wp2
          go_ret
          exact ⟨rfl, HB8.out⟩
  · have y1 : (wE L == 0) = false := by simpa using hw
    have y2 : (wE L != 0) = true := by simpa using hw
    clear hw ho3 hb3 HWr HSz HOs
    go_wp2_with fail
    refine (HKn.out _).mono ?_
    rintro e w9 ⟨rfl, hb9⟩
    have HB9 := Lib.hid (HB3.out.trans (hb9.mono HB3.out.size))
    clear hb9
    go_wp2
    go_ret
    exact ⟨rfl, HB9.out⟩

theorem histTorn_walk (a0 : Option Addr) (n0 c0 : Nat) (z0 : List Ho) (at_ : Int) (a2 : Option Addr) (len2 cap2 : Nat) (z2 : List Int) (w : World) (w0 : HR w a0 z0) (u0 : z0.length = n0) (m0 : n0 ≤ maxLen) (t0 : ∀ y ∈ z0, SzH y) (w1 : (Lit.int .i64 at_).wf = true) (w2 : Row8 w a2 len2 cap2 z2) :
    Calls Tryz.prog 3 #[.slice a0 n0 c0, .int .i64 at_, .slice a2 len2 cap2] w fun e w' => e = .returned (.bool true) ∧ Below w.heap.size w w' := by
  obtain ⟨l, hl, hcap, hr, -⟩ := w2.rw
  obtain ⟨b0, b1⟩ := bounds_i64 w1
  subst hl
  exact histTorn_core a0 n0 c0 z0 at_ a2 cap2 l w w0 u0 m0 t0 b0 b1 hr

end Go.Proofs.YthngpmiclbbpnaaGreat
