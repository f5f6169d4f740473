/-
  The statement on pages that are erased but for their first bytes.
-/
import Derived.Test.YtgndpoijijfmhaaTagBackW
import Derived.Laws.OwnMore
namespace Tagm
open Crcm
/-- a row of which j bytes from k on are 255 -/
def ct (l : List Int) (k : Nat) : Nat → List Int
  | 0 => l
  | j + 1 => (ct l k j).set (k + j) 255
theorem ct_length (l : List Int) (k j : Nat) : (ct l k j).length = l.length := by
  induction j with
  | zero => rfl
  | succ j ih => simp [ct, ih]
theorem ct_get (l : List Int) (k j i : Nat) : (ct l k j).getD i 0 = if k ≤ i ∧ i < k + j ∧ i < l.length then 255 else l.getD i 0 := by
  induction j generalizing i with
  | zero => rw [if_neg (by omega)]; rfl
  | succ j ih =>
    have hl := ct_length l k j
    have h1 := ih i
    simp only [ct, List.getD_eq_getElem?_getD, List.getElem?_set] at h1 ⊢
    by_cases e : k + j = i
    · rw [if_pos e]
      by_cases hlt : i < l.length
      · rw [if_pos (by omega), if_pos (by omega)]; rfl
      · rw [if_neg (by omega), if_neg (by omega)]
        simp [List.getElem?_eq_none (by omega : l.length ≤ i)]
    · rw [if_neg e, h1]
      by_cases c : k ≤ i ∧ i < k + j ∧ i < l.length
      · rw [if_pos c, if_pos (by omega)]
      · rw [if_neg c, if_neg (by omega)]
theorem ct_U8 (l : List Int) (k j : Nat) (h : ∀ b ∈ l, U8 b) : ∀ b ∈ ct l k j, U8 b := by
  induction j with
  | zero => exact h
  | succ j ih =>
    intro b hb
    simp only [ct] at hb
    rcases List.mem_or_eq_of_mem_set hb with g | rfl
    · exact ih b g
    · exact ⟨by decide, by decide⟩
theorem ct_all (l : List Int) (j : Nat) (h : j = l.length) : Er (ct l 0 j) := by
  intro b hb
  obtain ⟨i, hi, rfl⟩ := List.mem_iff_getElem.1 hb
  have hl := ct_length l 0 j
  have g := ct_get l 0 j i
  rw [if_pos (by omega)] at g
  simpa [hi] using g
end Tagm
namespace Go.Proofs.Ytgndpoijijfmhaa
open Go.RowKit Crcm Tagm Go.ChangeShapes

theorem rdF_cut (l : List Int) (n k j : Nat) (hl : l.length = n + 32) (hs : Sz n) (hk : k + j = l.length) (hk2 : k + 4 ≤ l.length) :
    rdF (ct l k j) = if Er (ct l k j) then 20 else 21 := by
  have hv : ¬ Vl n (ct l k j) := by
    intro h
    have h1 := Vl_last h 0 (by omega)
    have hc := ct_length l k j
    have hlt : (ct l k j).length - 1 - 0 < (ct l k j).length := by omega
    have h2 := ct_get l k j ((ct l k j).length - 1 - 0)
    rw [if_pos (by omega)] at h2
    simp only [List.getD_eq_getElem?_getD, List.getElem?_eq_getElem hlt, Option.getD_some] at h1 h2
    omega
  unfold rdF
  rw [ct_length, hl, if_pos (by simpa using hs), show n + 32 - 32 = n by omega, if_neg hv]

set_option maxHeartbeats 400000 in
theorem ref255_any (a : Option Addr) (cap : Nat) (l : List Int) (w : World) (hr : Rw w a l) :
    Calls Try.prog 26 #[.slice a l.length cap] w fun e w' => e = .returned (.bool (decide (Er l))) ∧ w = w' := by
  obtain ⟨hz, hm, hc⟩ := hr
  unfold maxLen at hm
  go_enter Try.func26, Try.ntmps26
  go_wp2_with fail
  go_loop [3] (fun i => ∃ k : Nat, k ≤ l.length ∧ i = .int .i64 k ∧ Hid (er l k = true)) (fun i => l.length - (intOf i).toNat)
  case atStart => exact ⟨0, by omega, rfl, Lib.hid rfl⟩
  case round =>
    obtain ⟨k, hk, rfl, hv⟩ := hrel
    by_cases hlt : k < l.length
    · rcases hc with rfl | ⟨b, off, rfl, hc⟩
      · simp at hlt
      have hcell := hc k hlt
      clear hc
      by_cases h255 : l[k] = 255
      · have hS := Lib.hid (er_succ hlt)
        have hE := Lib.hid h255
        have g : (l[k] != 255) = false := by simp [h255]
        clear h255
        go_wp2
        go_round
        case rel => exact ⟨k + 1, by omega, by go_num, Lib.hid (by rw [hS.out, hv.out, hE.out]; rfl)⟩
        case measure => simp [intOf]; omega
      · have g : (l[k] != 255) = true := by simp [h255]
        have hN := Lib.hid (er_no hlt (by simp [h255]))
        clear h255
        go_wp2
        go_ret
        exact ⟨ret_bool (by rw [hN.out]), rfl⟩
    · have hkl : k = l.length := by omega
      subst hkl
      go_wp2
      go_ret
      exact ⟨ret_bool (by rw [← er_Er, hv.out]), rfl⟩
theorem ref255_len {a : Option Addr} {cap m : Nat} {l : List Int} {w : World} (hr : Rw w a l) (hl : l.length = m) :
    Calls Try.prog 26 #[.slice a m cap] w fun e w' => e = .returned (.bool (decide (Er l))) ∧ w = w' := by
  subst hl
  exact ref255_any a cap l w hr

theorem own_mono {w : World} {base base2 n : Nat} {v : Value} {xs : List Value} {e : TypeId} (h : w.ownsRow base e 1 v n xs) (hb : base2 ≤ base) : w.ownsRow base2 e 1 v n xs := by
  refine ⟨h.1, ?_⟩
  rcases h.2 with h | ⟨g, cap, cur, h1, h2, h3⟩
  · exact .inl h
  · exact .inr ⟨g, cap, cur, h1, by omega, h3⟩

/-- where a row of the call's own lies -/
theorem own_form {w : World} {base n : Nat} {v : Value} {xs : List Value} {e : TypeId} (h : w.ownsRow base e 1 v n xs) (hn : 0 < n) : ∃ g cap, v = .slice (some ⟨g, 0, none⟩) n cap ∧ base ≤ g ∧ n ≤ cap := by
  rcases h.2 with ⟨_, h0⟩ | ⟨g, cap, cur, h, hg, _, hc, _⟩
  · rw [h0] at h; have := h.1; simp at this; omega
  · exact ⟨g, cap, h, hg, hc⟩

set_option maxRecDepth 100000 in
set_option maxHeartbeats 400000 in
theorem tagCut_walk (k p s e : Int) (a1 : Option Addr) (len1 cap1 : Nat) (z1 : List Int) (at_ : Int) (w : World) (_hk : (Lit.int .i64 k).wf = true) (hp : (Lit.int .u32 p).wf = true) (_hs : (Lit.int .u64 s).wf = true) (_he : (Lit.int .u64 e).wf = true)
    (w1 : Row8 w a1 len1 cap1 z1) (w2 : (Lit.int .i64 at_).wf = true) :
    Calls Try.prog 8 #[.agg #[.int .i64 k, .int .u32 p, .int .u64 s, .int .u64 e], .slice a1 len1 cap1, .int .i64 at_] w fun r w' => r = .returned (.bool true) ∧ Below w.heap.size w w' := by
  obtain ⟨l1, rfl, -, r1, -⟩ := w1.rw
  have hp0 : 0 ≤ p := (U32_wf hp).1
  obtain ⟨b0, b1⟩ := bounds_i64 w2
  clear _hk hp _hs _he w1 w2
  have hbz : Below w.heap.size w (w.alloc (.cells #[.int .i64 k, .int .u32 p, .int .u64 s, .int .u64 e] 25)) := (Below.refl _ _).alloc (Nat.le_refl _) _
  by_cases h : 2000 < l1.length
  · have HL := Lib.hid (fun w => long_yes a1 l1.length cap1 w h)
    clear h
    go_enter Try.func8, Try.ntmps8
    go_wp2_with fail
    refine (HL.out _).mono ?_
    rintro r w' ⟨rfl, rfl⟩
    go_wp2_with fail
    refine (known_any _).mono ?_
    rintro r w' ⟨rfl, hb⟩
    go_wp2
    go_ret
    exact ⟨rfl, hbz.trans (hb.mono (by simp))⟩
  · have HL := Lib.hid (fun w => long_no a1 l1.length cap1 w (by omega))
    have z1 := r1.below hbz
    by_cases hw : Rt k p s e ∧ Sz l1.length
    · have HA := Lib.hid (write_ok k p s e a1 cap1 l1 _ hw.1 hw.2 z1)
      have hn0 : 64 ≤ l1.length ∧ l1.length ≤ 512 := by have := hw.2; unfold Sz at this; omega
      obtain ⟨j, hj, hcon⟩ := among_int at_ (l1.length + 29) ((l1.length : Int) + 32 - 3) (by omega) b0 b1 (by omega) (by omega)
      have HC := Lib.hid hcon
      have HS := Lib.hid hw.2
      have HU := Lib.hid (pg_U8 k p s e l1 r1.1)
      have HPL := Lib.hid (pg_length k p s e l1)
      have HBZ := Lib.hid hbz
      obtain ⟨n0, n1⟩ := hn0
      have d96 : decide ((l1.length : Int) + 32 < 96) = false := by simp; omega
      clear hw r1 z1 hcon hbz
      unfold tg at HA
      go_enter Try.func8, Try.ntmps8
      go_wp2_with fail
      refine (HL.out _).mono ?_
      rintro r w' ⟨rfl, rfl⟩
      go_wp2_with fail
      refine HA.out.mono ?_
      rintro r W ⟨v, rfl, hown, hb⟩
      obtain ⟨g, cap, rfl, hg, hcap⟩ := own_form hown (by omega)
      have HB := Lib.hid (HBZ.out.trans (hb.mono HBZ.out.size))
      have hgw : w.heap.size ≤ g := by simp at hg; omega
      have HO : Hid (W.ownsRow w.heap.size 5 1 (.slice (some ⟨g, 0, none⟩) (l1.length + 32) cap) (l1.length + 32) ((pg k p s e l1).map (Value.int .u8))) := Lib.hid (own_mono hown (by simp; omega))
      clear hown hb hg HA HL
      go_wp2_with fail
      refine (HC.out _).mono ?_
      rintro r w' ⟨rfl, rfl⟩
      clear HC d96
      go_wp2_with fail
      go_loopw [10] (fun i wr => ∃ q : Nat, j ≤ q ∧ q ≤ l1.length + 32 ∧ i = .int .i64 q ∧ Hid (wr.ownsRow w.heap.size 5 1 (.slice (some ⟨g, 0, none⟩) (l1.length + 32) cap) (l1.length + 32) ((ct (pg k p s e l1) j (q - j)).map (Value.int .u8))) ∧ Below w.heap.size w wr) (fun i _ => l1.length + 32 - (intOf i).toNat)
      case atStart => exact ⟨j, by omega, by omega, rfl, by rw [Nat.sub_self]; exact HO, HB.out⟩
      case round =>
        obtain ⟨q, hq0, hq, rfl, hO, hbel⟩ := hrel
        by_cases hlt : q < l1.length + 32
        · have dlt : decide ((q : Int) < (l1.length : Int) + 32) = true := by simp; omega
          have hlen : (ct (pg k p s e l1) j (q - j)).length = l1.length + 32 := by rw [ct_length, HPL.out]
          obtain ⟨x, hx⟩ : ∃ x, wr.cell? ⟨g, q, none⟩ = some (.int .u8 x) := by
            rw [hO.out.cellAt q (by omega), List.getElem?_map]
            simp [hlen, hlt]
          have hf := hO.out.frozenAt q
          have hst := hO.out.stored q (.int .u8 255)
          have e0 : ((ct (pg k p s e l1) j (q - j)).map (Value.int .u8)).set q (.int .u8 255) = (ct (pg k p s e l1) j (q + 1 - j)).map (Value.int .u8) := by
            rw [show q + 1 - j = (q - j) + 1 by omega, ← List.map_set]
            simp only [ct]
            rw [show j + (q - j) = q by omega]
          rw [e0] at hst
          have HST := Lib.hid hst.1
          have q0 : (0 : Int) ≤ (q : Int) := by omega
          have q1 : (q : Int) < (l1.length : Int) + 32 := by omega
          clear hst e0 hlen
          go_wp2
          go_roundw
          case rel => exact ⟨q + 1, by omega, by omega, by go_num, HST, hbel.setCell (p := ⟨g, q, none⟩) hgw _⟩
          case measure => simp [intOf]; omega
        · have dlt : decide ((q : Int) < (l1.length : Int) + 32) = false := by simp; omega
          have hqN : q = l1.length + 32 := by omega
          have hlen : (ct (pg k p s e l1) j (q - j)).length = l1.length + 32 := by rw [ct_length, HPL.out]
          obtain ⟨a4, cap4, ev, hr4, -, -⟩ := Rw.of_own hO.out (ct_U8 _ _ _ HU.out)
          injection ev with ev1 _ ev2
          subst ev1 ev2
          obtain ⟨y, hy⟩ : ∃ y, ct (pg k p s e l1) j (q - j) = y := ⟨_, rfl⟩
          have hF := rdF_cut (pg k p s e l1) l1.length j (q - j) HPL.out HS.out (by rw [HPL.out]; omega) (by rw [HPL.out]; omega)
          rw [hy] at hr4 hF hlen
          have hall : j = 0 → Er y := fun h0 => by rw [← hy, h0]; exact ct_all _ _ (by rw [HPL.out]; omega)
          have HR4 := Lib.hid hr4
          have HF := Lib.hid hF
          have HLN := Lib.hid hlen
          have HALL := Lib.hid hall
          clear hr4 hF hlen hall hy hO hqN hq0 hq hlt
          go_wp2_with fail
          refine (read_any _ _ _ _ _ HR4.out HLN.out hcap).mono ?_
          rintro r W5 ⟨hb5, ⟨_, rfl⟩ | ⟨h0, _⟩⟩
          · rw [HF.out]
            have HB5 := Lib.hid (hbel.trans (hb5.mono hbel.size))
            have HR5 := Lib.hid (HR4.out.below hb5)
            clear hb5
            unfold Bad tg
            by_cases hE : Er y
            · rw [if_pos hE]
              have dE := decide_eq_true hE
              have HDE := Lib.hid dE
              clear dE hE HF
              by_cases hj0 : j = 0
              · subst hj0
                go_wp2_with fail
                refine (known_any _).mono ?_
                rintro r W8 ⟨rfl, hb8⟩
                go_wp2
                go_ret
                exact ⟨rfl, HB5.out.trans ((((Below.refl _ W5).alloc (Nat.le_refl _) _).trans (hb8.mono (by simp))).mono HB5.out.size)⟩
              · have gj : ((j : Int) == 0) = false := by simp; omega
                go_wp2_with fail
                refine (ref255_len (HR5.out.below ((Below.refl _ _).alloc (Nat.le_refl _) _)) HLN.out).mono ?_
                rintro r w' ⟨rfl, rfl⟩
                rw [HDE.out]
                go_wp2_with fail
                refine (known_any _).mono ?_
                rintro r W8 ⟨rfl, hb8⟩
                go_wp2
                go_ret
                exact ⟨rfl, HB5.out.trans ((((Below.refl _ W5).alloc (Nat.le_refl _) _).trans (hb8.mono (by simp))).mono HB5.out.size)⟩
            · rw [if_neg hE]
              have hj0 : j ≠ 0 := fun h => hE (HALL.out h)
              have HDE := Lib.hid (decide_eq_false hE)
              have gj : ((j : Int) == 0) = false := by simp; omega
              clear hE HF hj0
              go_wp2_with fail
              refine (ref255_len (HR5.out.below ((Below.refl _ _).alloc (Nat.le_refl _) _)) HLN.out).mono ?_
              rintro r w' ⟨rfl, rfl⟩
              rw [HDE.out]
              go_wp2_with fail
              refine (known_any _).mono ?_
              rintro r W8 ⟨rfl, hb8⟩
              go_wp2
              go_ret
              exact ⟨rfl, HB5.out.trans ((((Below.refl _ W5).alloc (Nat.le_refl _) _).trans (hb8.mono (by simp))).mono HB5.out.size)⟩
          · exfalso
            rw [HF.out] at h0
            split at h0 <;> omega
    · have HA := Lib.hid (write_no k p s e a1 cap1 l1 (w.alloc (.cells #[.int .i64 k, .int .u32 p, .int .u64 s, .int .u64 e] 25)) hp0 hw)
      clear hw r1 z1 h
      unfold tg at HA
      go_enter Try.func8, Try.ntmps8
      go_wp2_with fail
      refine (HL.out _).mono ?_
      rintro r w' ⟨rfl, rfl⟩
      go_wp2_with fail
      refine HA.out.mono ?_
      rintro r W ⟨rfl, hb⟩
      go_wp2_with fail
      refine (known_any _).mono ?_
      rintro r w' ⟨rfl, hb2⟩
      go_wp2
      go_ret
      exact ⟨rfl, hbz.trans ((hb.mono (by simp)).trans (hb2.mono (by have := hb.size; simp at this; omega)))⟩

end Go.Proofs.Ytgndpoijijfmhaa
