/-
  The statement on a page of which at most four bytes that stand together are turned.
-/
import Derived.Test.YtgndpoijijfmhaaTagBurstM
namespace Go.Proofs.Ytgndpoijijfmhaa
open Go.RowKit Crcm Tagm Go.ChangeShapes

theorem own_base {w : World} {base base2 n : Nat} {v : Value} {xs : List Value} {e : TypeId} (h : w.ownsRow base e 1 v n xs) (hb : base2 ≤ base) : w.ownsRow base2 e 1 v n xs := by
  refine ⟨h.1, ?_⟩
  rcases h.2 with h | ⟨g, cap, cur, h1, h2, h3⟩
  · exact .inl h
  · exact .inr ⟨g, cap, cur, h1, by omega, h3⟩
theorem own_shape {w : World} {base n : Nat} {v : Value} {xs : List Value} {e : TypeId} (h : w.ownsRow base e 1 v n xs) (hn : 0 < n) : ∃ g cap, v = .slice (some ⟨g, 0, none⟩) n cap ∧ base ≤ g ∧ n ≤ cap := by
  rcases h.2 with ⟨_, h0⟩ | ⟨g, cap, cur, h, hg, _, hc, _⟩
  · rw [h0] at h; have := h.1; simp at this; omega
  · exact ⟨g, cap, h, hg, hc⟩

set_option maxRecDepth 100000 in
set_option maxHeartbeats 1000000 in
theorem tagBurst_long (k p s e : Int) (a1 : Option Addr) (cap1 : Nat) (l1 : List Int) (at_ : Int) (a2 : Option Addr) (cap2 : Nat) (x : List Int) (w : World) (_hp0 : 0 ≤ p) (_r1 : Rw w a1 l1) (r2 : Rw w a2 x)
    (h : 2000 < l1.length ∨ 4 < x.length) :
    Calls Try.prog 7 #[.agg #[.int .i64 k, .int .u32 p, .int .u64 s, .int .u64 e], .slice a1 l1.length cap1, .int .i64 at_, .slice a2 x.length cap2] w fun r w' => r = .returned (.bool true) ∧ Below w.heap.size w w' := by
  have m2 := r2.2.1
  unfold maxLen at m2
  have hbz : Below w.heap.size w (w.alloc (.cells #[.int .i64 k, .int .u32 p, .int .u64 s, .int .u64 e] 25)) := (Below.refl _ _).alloc (Nat.le_refl _) _
  by_cases h1 : 2000 < l1.length
  · have HL := Lib.hid (fun w => long_yes a1 l1.length cap1 w h1)
    clear h h1
    go_enter Try.func7, Try.ntmps7
    go_wp2_with fail
    refine (HL.out _).mono ?_
    rintro r w' ⟨rfl, rfl⟩
    go_wp2_with fail
    refine (known_any _).mono ?_
    rintro r w' ⟨rfl, hb⟩
    go_wp2
    go_ret
    exact ⟨rfl, hbz.trans (hb.mono (by simp))⟩
  · have HL := Lib.hid (fun w => long_no a1 l1.length cap1 w (by omega))
    have h2 : 4 < x.length := by omega
    have d4 : decide ((4 : Int) < (x.length : Int)) = true := by simp; omega
    clear h h1
    go_enter Try.func7, Try.ntmps7
    go_wp2_with fail
    refine (HL.out _).mono ?_
    rintro r w' ⟨rfl, rfl⟩
    go_wp2_with fail
    refine (known_any _).mono ?_
    rintro r w' ⟨rfl, hb⟩
    go_wp2
    go_ret
    exact ⟨rfl, hbz.trans (hb.mono (by simp))⟩

set_option maxRecDepth 100000 in
set_option maxHeartbeats 2000000 in
theorem tagBurst_short (k p s e : Int) (a1 : Option Addr) (cap1 : Nat) (l1 : List Int) (at_ : Int) (a2 : Option Addr) (cap2 : Nat) (x : List Int) (w : World) (hp0 : 0 ≤ p) (r1 : Rw w a1 l1) (r2 : Rw w a2 x)
    (b0 : -9223372036854775808 ≤ at_) (b1 : at_ ≤ 9223372036854775807) (h1 : l1.length ≤ 2000) (h4 : x.length ≤ 4) :
    Calls Try.prog 7 #[.agg #[.int .i64 k, .int .u32 p, .int .u64 s, .int .u64 e], .slice a1 l1.length cap1, .int .i64 at_, .slice a2 x.length cap2] w fun r w' => r = .returned (.bool true) ∧ Below w.heap.size w w' := by
  have hbz : Below w.heap.size w (w.alloc (.cells #[.int .i64 k, .int .u32 p, .int .u64 s, .int .u64 e] 25)) := (Below.refl _ _).alloc (Nat.le_refl _) _
  have HL := Lib.hid (fun w => long_no a1 l1.length cap1 w (by omega))
  have d4 : decide ((4 : Int) < (x.length : Int)) = false := by simp; omega
  have z1 := r1.below hbz
  by_cases hw : Rt k p s e ∧ Sz l1.length
  · have HA := Lib.hid (write_ok k p s e a1 cap1 l1 _ hw.1 hw.2 z1)
    have hn0 : 64 ≤ l1.length ∧ l1.length ≤ 512 := by have := hw.2; unfold Sz at this; omega
    obtain ⟨j, hj, hcon⟩ := among_int at_ (l1.length + 33 - x.length) ((l1.length : Int) + 32 - (x.length : Int) + 1) (by omega) b0 b1 (by omega) (by omega)
    have HC := Lib.hid hcon
    have HW := Lib.hid hw
    have HU := Lib.hid (pg_U8 k p s e l1 r1.1)
    have HU1 := Lib.hid r1.1
    have HPL := Lib.hid (pg_length k p s e l1)
    have HBZ := Lib.hid hbz
    have HX := Lib.hid r2
    obtain ⟨n0, n1⟩ := hn0
    have dlx : decide ((l1.length : Int) + 32 < (x.length : Int)) = false := by simp; omega
    clear hw r1 r2 z1 hcon hbz b0 b1
    unfold tg at HA
    go_enter Try.func7, Try.ntmps7
    go_wp2_with fail
    refine (HL.out _).mono ?_
    rintro r w' ⟨rfl, rfl⟩
    go_wp2_with fail
    refine HA.out.mono ?_
    rintro r W ⟨v, rfl, hown, hb⟩
    obtain ⟨g, cap, rfl, hg, hcap⟩ := own_shape hown (by omega)
    have HB := Lib.hid (HBZ.out.trans (hb.mono HBZ.out.size))
    have hgw : w.heap.size ≤ g := by simp at hg; omega
    have HO : Hid (W.ownsRow w.heap.size 5 1 (.slice (some ⟨g, 0, none⟩) (l1.length + 32) cap) (l1.length + 32) ((pg k p s e l1).map (Value.int .u8))) := Lib.hid (own_base hown (by simp; omega))
    clear hown hb hg HA HL
    go_wp2_with fail
    refine (HC.out _).mono ?_
    rintro r w' ⟨rfl, rfl⟩
    clear HC d4 dlx
    go_wp2_with fail
    go_loopw [12, 13] (fun s' i wr => ∃ q : Nat, ∃ t : Bool, q ≤ x.length ∧ i = .int .i64 q ∧ s' = .bool t ∧ Hid (t = al x q) ∧ Hid (wr.ownsRow w.heap.size 5 1 (.slice (some ⟨g, 0, none⟩) (l1.length + 32) cap) (l1.length + 32) ((bu (pg k p s e l1) j x q).map (Value.int .u8))) ∧ Below w.heap.size w wr) (fun _ i _ => x.length - (intOf i).toNat)
    case atStart => exact ⟨0, true, by omega, rfl, rfl, Lib.hid rfl, HO, HB.out⟩
    case round =>
      obtain ⟨q, t, hq, rfl, rfl, ht, hO, hbel⟩ := hrel
      by_cases hlt : q < x.length
      · obtain ⟨-, -, rfl | ⟨bx, ox, rfl, cx⟩⟩ := HX.out.below hbel
        · simp at hlt
        have cx := cx q hlt
        have hlen : (bu (pg k p s e l1) j x q).length = l1.length + 32 := by rw [bu_length, HPL.out]
        have hkj : j + q < l1.length + 32 := by omega
        obtain ⟨d, hd, hde⟩ : ∃ d, wr.cell? ⟨g, j + q, none⟩ = some (.int .u8 d) ∧ Hid (d = (bu (pg k p s e l1) j x q).getD (j + q) 0) := by
          refine ⟨_, ?_, Lib.hid rfl⟩
          rw [hO.out.cellAt (j + q) (by omega), List.getElem?_map]
          simp [hlen, hkj]
        have hf := hO.out.frozenAt (j + q)
        have hst := hO.out.stored (j + q) (.int .u8 (bits .xor .u8 d (x.getD q 0)))
        have e0 : ((bu (pg k p s e l1) j x q).map (Value.int .u8)).set (j + q) (.int .u8 (bits .xor .u8 d (x.getD q 0))) = (bu (pg k p s e l1) j x (q + 1)).map (Value.int .u8) := by
          rw [hde.out, ← List.map_set]; rfl
        rw [e0] at hst
        have exj : x.getD q 0 = x[q] := by simp [hlt]
        rw [exj] at hst
        have HST := Lib.hid hst.1
        have hsm := Lib.hid (al_succ x q hlt)
        clear hst e0 exj hlen
        cases t
        · go_wp2
          go_region
          go_wp2
          go_roundw
          case rel => exact ⟨q + 1, false, by omega, by go_num, rfl, Lib.hid (by rw [hsm.out, ← ht.out]; rfl), HST, (hbel.setCell (p := ⟨g, j + q, none⟩) hgw _).drew⟩
          case measure => simp [intOf]; omega
        · go_wp2
          go_region
          go_wp2
          go_roundw
          case rel => exact ⟨q + 1, x[q] == 0, by omega, by go_num, rfl, Lib.hid (by rw [hsm.out, ← ht.out]; rfl), HST, (hbel.setCell (p := ⟨g, j + q, none⟩) hgw _).drew⟩
          case measure => simp [intOf]; omega
      · have hqx : q = x.length := by omega
        subst hqx
        have hlen : (bu (pg k p s e l1) j x x.length).length = l1.length + 32 := by rw [bu_length, HPL.out]
        obtain ⟨a4, cap4, ev, hr4, -, -⟩ := Rw.of_own hO.out (bu_U8 _ j x HU.out HX.out.1 _ (Nat.le_refl _))
        injection ev with ev1 _ ev2
        subst ev1 ev2
        have hF := rdF_bu j x k p s e l1 HU1.out HX.out.1 h4 (by rw [HPL.out]; omega) HW.out.1 HW.out.2
        rw [← ht.out] at hF
        obtain ⟨y, hy⟩ : ∃ y, bu (pg k p s e l1) j x x.length = y := ⟨_, rfl⟩
        rw [hy] at hr4 hF hlen
        have HR4 := Lib.hid hr4
        have HF := Lib.hid hF
        have HLN := Lib.hid hlen
        clear hr4 hF hlen hy hO hq hlt ht
        go_wp2_with fail
        refine (read_any _ _ _ _ _ HR4.out HLN.out hcap).mono ?_
        rintro r W5 ⟨hb5, ⟨hf5, rfl⟩ | ⟨hf5, n5, _, _, _, A5, c5, rfl, _⟩⟩
        · have HB5 := Lib.hid (hbel.trans (hb5.mono hbel.size))
          clear hb5
          cases t
          · rw [HF.out]
            clear hf5
            unfold Bad tg
            simp only [Bool.false_eq_true, if_false]
            go_wp2_with fail
            refine (known_any _).mono ?_
            rintro r W8 ⟨rfl, hb8⟩
            go_wp2
            go_ret
            exact ⟨rfl, HB5.out.trans ((((Below.refl _ W5).alloc (Nat.le_refl _) _).trans (hb8.mono (by simp))).mono HB5.out.size)⟩
          · exact absurd HF.out hf5
        · have HB5 := Lib.hid (hbel.trans (hb5.mono hbel.size))
          clear hb5
          cases t
          · rw [HF.out] at hf5; simp at hf5
          · clear hf5
            unfold tg
            go_wp2_with fail
            refine (known_any _).mono ?_
            rintro r W8 ⟨rfl, hb8⟩
            go_wp2
            go_ret
            exact ⟨rfl, HB5.out.trans ((((Below.refl _ W5).alloc (Nat.le_refl _) _).trans (hb8.mono (by simp))).mono HB5.out.size)⟩
  · have HA := Lib.hid (write_no k p s e a1 cap1 l1 (w.alloc (.cells #[.int .i64 k, .int .u32 p, .int .u64 s, .int .u64 e] 25)) hp0 hw)
    clear hw r1 z1 r2
    unfold tg at HA
    go_enter Try.func7, Try.ntmps7
    go_wp2_with fail
    refine (HL.out _).mono ?_
    rintro r w' ⟨rfl, rfl⟩
    go_wp2_with fail
    refine HA.out.mono ?_
    rintro r W ⟨rfl, hb⟩
    go_wp2_with fail
    refine (known_any _).mono ?_
    rintro r w' ⟨rfl, hb2⟩
    go_wp2
    go_ret
    exact ⟨rfl, hbz.trans ((hb.mono (by simp)).trans (hb2.mono (by have := hb.size; simp at this; omega)))⟩

theorem tagBurst_walk (k p s e : Int) (a1 : Option Addr) (len1 cap1 : Nat) (z1 : List Int) (at_ : Int) (a3 : Option Addr) (len3 cap3 : Nat) (z3 : List Int) (w : World) (_hk : (Lit.int .i64 k).wf = true) (hp : (Lit.int .u32 p).wf = true) (_hs : (Lit.int .u64 s).wf = true) (_he : (Lit.int .u64 e).wf = true)
    (w1 : Row8 w a1 len1 cap1 z1) (w2 : (Lit.int .i64 at_).wf = true) (w3 : Row8 w a3 len3 cap3 z3) :
    Calls Try.prog 7 #[.agg #[.int .i64 k, .int .u32 p, .int .u64 s, .int .u64 e], .slice a1 len1 cap1, .int .i64 at_, .slice a3 len3 cap3] w fun r w' => r = .returned (.bool true) ∧ Below w.heap.size w w' := by
  obtain ⟨l1, rfl, -, r1, -⟩ := w1.rw
  obtain ⟨x, rfl, -, r2, -⟩ := w3.rw
  obtain ⟨b0, b1⟩ := bounds_i64 w2
  by_cases h : 2000 < l1.length ∨ 4 < x.length
  · exact tagBurst_long k p s e a1 cap1 l1 at_ a3 cap3 x w (U32_wf hp).1 r1 r2 h
  · exact tagBurst_short k p s e a1 cap1 l1 at_ a3 cap3 x w (U32_wf hp).1 r1 r2 b0 b1 (by omega) (by omega)

end Go.Proofs.Ytgndpoijijfmhaa
