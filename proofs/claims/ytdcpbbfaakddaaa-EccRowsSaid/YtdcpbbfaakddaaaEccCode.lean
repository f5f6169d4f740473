/-
  What a block's code is: the program's reckoning, bit by bit.
-/
import Derived.Test.YtdcpbbfaakddaaaEccBase
namespace Go.Proofs.Ytdcpbbfaakddaaa
open Go.RowKit Crcm Eccm

theorem bon {a b c : World} (h : Below a.heap.size a b) (k : Below b.heap.size b c) : Below a.heap.size a c := h.trans (k.mono h.size)
/-- the place ahead of the bit k's -/
def pv (k : Nat) : Nat := if k = 0 then 2 else pl (k - 1)
theorem pv_nx (k : Nat) : nx (pv k + 1) = pl k := by
  unfold pv
  cases k with
  | zero => rw [if_pos rfl]; decide
  | succ k => rw [if_neg (by omega)]; rfl
theorem pv_step (k : Nat) : pl k = pv (k + 1) := by unfold pv; rw [if_neg (by omega)]; rfl
theorem pv_lt {k : Nat} (h : k < 32768) : 2 ≤ pv k ∧ pv k < 65535 := by
  unfold pv
  split
  · omega
  · have a := pl_ge (k - 1)
    have b := pl_step (k - 1)
    have c := pl_small (k := k - 1 + 1) (by omega)
    omega
theorem on_pv {k : Nat} (h : k < 32768) : (on ((pv k : Int) + 1).toNat 32 : Nat) = if pw (pv k + 1) then 1 else on (pv k + 1) 32 := by
  have := pv_lt h
  rw [show ((pv k : Int) + 1).toNat = pv k + 1 by omega]
  split
  · rename_i hp; exact on_pw (by omega) hp
  · rfl

/-- the test of a bit -/
theorem bit_u8 {B : Int} (hB : U8 B) (j : Nat) : (bits .and .u8 (B / 2 ^ j) 1 == 1) = B.toNat.testBit j := by
  obtain ⟨h0, h1⟩ := hB
  obtain ⟨N, rfl⟩ : ∃ N : Nat, B = N := ⟨B.toNat, by omega⟩
  have e : ((N : Int) / 2 ^ j) = ((N / 2 ^ j : Nat) : Int) := by rw [Int.natCast_ediv]; simp
  have hlt : N / 2 ^ j < 256 := Nat.lt_of_le_of_lt (Nat.div_le_self _ _) (by omega)
  rw [e, show (1 : Int) = ((1 : Nat) : Int) from rfl, u8_and_nat _ _ hlt (by decide), Int.toNat_natCast, Nat.and_one_is_mod, Nat.testBit_eq_decide_div_mod_eq]
  rcases Nat.mod_two_eq_zero_or_one (N / 2 ^ j) with h | h <;> rw [h] <;> rfl
theorem sx_yes {f : Nat → Bool} {k : Nat} (h : f k = true) : sx f (k + 1) = sx f k ^^^ pl k := by show (if f k then _ else _) = _; rw [if_pos h]
theorem sx_no {f : Nat → Bool} {k : Nat} (h : f k = false) : sx f (k + 1) = sx f k := by show (if f k then _ else _) = _; rw [h]; rfl
theorem cn_yes {f : Nat → Bool} {k : Nat} (h : f k = true) : cn f (k + 1) = cn f k + 1 := by show (if f k then _ else _) = _; rw [if_pos h]
theorem cn_no {f : Nat → Bool} {k : Nat} (h : f k = false) : cn f (k + 1) = cn f k := by show (if f k then _ else _) = _; rw [h]; rfl
theorem xor_pl {X : Int} {a p : Nat} (ha : a < 65536) (hp : p < 65536) (h : X = (a : Nat)) : bits .xor .u32 X (p : Int) = ((a ^^^ p : Nat) : Int) := by
  rw [h, u32_xor_nat _ _ (by omega) (by omega)]
theorem or_par {a : Nat} (ha : a < 65536) : bits .or .u32 (a : Int) 65536 = ((a + 65536 : Nat) : Int) := by
  rw [show (65536 : Int) = ((65536 : Nat) : Int) from rfl, u32_or_nat _ _ (by omega) (by decide)]
  congr 1
  have := Nat.two_pow_add_eq_or_of_lt (i := 16) (b := a) (by omega) 1
  rw [Nat.or_comm]
  have e : 2 ^ 16 * 1 = 65536 := rfl
  rw [e] at this
  omega

set_option maxRecDepth 100000 in
set_option maxHeartbeats 1000000 in
theorem codeOf_any (b : Nat) (off n c : Nat) (l : List Int) (w : World) (hr : Rw w (some ⟨b, off, none⟩) l) (hl : l.length = n) (hn : n ≤ 4096) :
    Calls Try.prog 24 #[.slice (some ⟨b, off, none⟩) n c] w fun e w' => e = .returned (.int .u32 (cb l : Nat)) ∧ Below w.heap.size w w' := by
  go_enter Try.func24, Try.ntmps24
  go_wp2_with fail
  go_loopw [3, 4, 5, 10] (fun x o p i wr => ∃ k : Nat, ∃ X : Int, ∃ O P : Nat, k ≤ 8 * n ∧ i = .int .i64 k ∧ x = .int .u32 X ∧ o = .int .i64 O ∧ p = .int .u32 P ∧ U32 X ∧ Hid (X = sx (bt l) k) ∧ Hid (O = cn (bt l) k) ∧ Hid (P = pv k) ∧ Hid (Below w.heap.size w wr)) (fun _ _ _ i _ => 8 * n - (intOf i).toNat)
  case atStart => exact ⟨0, 0, 0, 2, by omega, rfl, rfl, rfl, rfl, ⟨by decide, by decide⟩, Lib.hid rfl, Lib.hid rfl, Lib.hid rfl, Lib.hid (Below.refl _ _)⟩
  case round =>
    obtain ⟨k, X, O, P, hk, rfl, rfl, rfl, rfl, hX, hx, ho, hp, hb⟩ := hrel
    by_cases hlt : k < 8 * n
    · have hP := pv_lt (k := k) (by omega)
      rw [← hp.out] at hP
      obtain ⟨hP0, hP1⟩ := hP
      have HC : ∀ q : Nat, on ((P : Int) + 1).toNat 32 = q → Hid (Calls Try.prog 38 #[.int .u32 ((P : Int) + 1)] wr fun e w' => e = .returned (.int .i64 q) ∧ Below wr.heap.size wr w') := by
        intro q hq
        have h := ones32_any ((P : Int) + 1) wr ⟨by omega, by omega⟩
        rw [hq] at h
        exact Lib.hid h
      have hin : (k / 8 : Nat) < l.length := by omega
      rcases hpw : pw (pv k + 1) with _ | _
      · have HC1 := HC _ rfl
        have hq : ((on ((P : Int) + 1).toNat 32 : Nat) : Int) ≠ 1 := by
          have := on_pv (k := k) (by omega)
          rw [hpw, if_neg (by decide), ← hp.out] at this
          intro e
          have := on_one (x := P + 1) (n := 32) (by omega) (by omega)
          rw [hp.out, hpw] at this
          cases this
        generalize on ((P : Int) + 1).toNat 32 = q at HC1 hq
        clear HC
        have tq : ((q : Int) == 1) = false := by simpa using hq
        clear hq
        go_wp2_with fail
        refine HC1.out.mono ?_
        rintro e w2 ⟨rfl, hb2⟩
        obtain ⟨B, hB, hBe, hcell⟩ : ∃ B : Int, U8 B ∧ Hid (B = l.getD (k / 8) 0) ∧ w2.cell? ⟨b, off + k / 8, none⟩ = some (.int .u8 B) := by
          obtain ⟨h1, -, h3⟩ := hr
          rcases h3 with rfl | ⟨b', off', he, h3⟩
          · simp at hin
          · injection he with he
            injection he with he1 he2
            subst he1 he2
            refine ⟨l.getD (k / 8) 0, ?_, Lib.hid rfl, ?_⟩
            · rw [List.getD_eq_getElem?_getD, List.getElem?_eq_getElem hin]; exact h1 _ (List.getElem_mem hin)
            · have hc := h3 (k / 8) hin
              rw [hb2.cell (Nat.lt_of_lt_of_le (block_lt_of_cell hc) hb.out.size), hb.out.cell (block_lt_of_cell hc)]
              exact hc
        have hbit : (bits .and .u8 (B / 2 ^ (k % 8)) 1 == 1) = bt (l) k := by rw [bit_u8 hB, hBe.out]; rfl
        have hpl : P + 1 = pl k := by rw [← pv_nx, ← hp.out, nx_no (by rw [hp.out]; exact hpw)]
        have hple : (P : Int) + 1 = ((pl k : Nat) : Int) := by omega
        have hpls := pl_small (k := k) (by omega)
        have hsx := sx_small (bt l) k (by omega)
        have HX := xor_pl hsx hpls hx.out
        have HS := Lib.hid hple
        have HH : Hid (bits .xor .u32 X ((P : Int) + 1) = ((sx (bt l) k ^^^ pl k : Nat) : Int)) := Lib.hid (by rw [hple]; exact HX)
        have HBI := Lib.hid hbit
        have HPV : Hid (P + 1 = pv (k + 1)) := Lib.hid (by rw [← pv_step]; exact hpl)
        have HO : O < 40000 := by have := cn_le (bt l) k; rw [← ho.out] at this; omega
        have HXs : Hid (sx (bt l) k < 65536 ∧ pl k < 65536) := Lib.hid ⟨hsx, hpls⟩
        clear hbit hple hpl HX hpls hsx
        go_wp2
        · have ht : (bits .and .u8 (B / 2 ^ (k % 8)) 1 == 1) = true := by assumption
          go_roundw
          case rel =>
            have ht2 : bt l k = true := by rw [← HBI.out]; exact ht
            have hxs : sx (bt l) k ^^^ pl k < 65536 := Nat.xor_lt_two_pow (n := 16) HXs.out.1 HXs.out.2
            exact ⟨k + 1, _, O + 1, P + 1, by omega, by go_num, rfl, by go_num, by go_num, by rw [HH.out]; exact ⟨by omega, by omega⟩, Lib.hid (by rw [HH.out, sx_yes ht2]), Lib.hid (by rw [cn_yes ht2, ho.out]), HPV, Lib.hid (bon hb.out hb2)⟩
          case measure => simp [intOf]; omega
        · have ht : (bits .and .u8 (B / 2 ^ (k % 8)) 1 == 1) = false := by assumption
          go_roundw
          case rel =>
            have ht2 : bt l k = false := by rw [← HBI.out]; exact ht
            exact ⟨k + 1, X, O, P + 1, by omega, by go_num, rfl, rfl, by go_num, hX, Lib.hid (by rw [hx.out, sx_no ht2]), Lib.hid (by rw [cn_no ht2, ho.out]), HPV, Lib.hid (bon hb.out hb2)⟩
          case measure => simp [intOf]; omega
      · have HC1 := HC _ rfl
        have hq : on ((P : Int) + 1).toNat 32 = 1 := by
          have := on_pv (k := k) (by omega)
          rw [hpw, if_pos rfl, ← hp.out] at this
          exact this
        rw [hq] at HC1
        clear HC hq
        go_wp2_with fail
        refine HC1.out.mono ?_
        rintro e w2 ⟨rfl, hb2⟩
        obtain ⟨B, hB, hBe, hcell⟩ : ∃ B : Int, U8 B ∧ Hid (B = l.getD (k / 8) 0) ∧ w2.cell? ⟨b, off + k / 8, none⟩ = some (.int .u8 B) := by
          obtain ⟨h1, -, h3⟩ := hr
          rcases h3 with rfl | ⟨b', off', he, h3⟩
          · simp at hin
          · injection he with he
            injection he with he1 he2
            subst he1 he2
            refine ⟨l.getD (k / 8) 0, ?_, Lib.hid rfl, ?_⟩
            · rw [List.getD_eq_getElem?_getD, List.getElem?_eq_getElem hin]; exact h1 _ (List.getElem_mem hin)
            · have hc := h3 (k / 8) hin
              rw [hb2.cell (Nat.lt_of_lt_of_le (block_lt_of_cell hc) hb.out.size), hb.out.cell (block_lt_of_cell hc)]
              exact hc
        have hbit : (bits .and .u8 (B / 2 ^ (k % 8)) 1 == 1) = bt (l) k := by rw [bit_u8 hB, hBe.out]; rfl
        have hpl : P + 1 + 1 = pl k := by rw [← pv_nx, ← hp.out, nx_yes (by rw [hp.out]; exact hpw)]
        have hple : (P : Int) + 1 + 1 = ((pl k : Nat) : Int) := by omega
        have hpls := pl_small (k := k) (by omega)
        have hsx := sx_small (bt l) k (by omega)
        have HX := xor_pl hsx hpls hx.out
        have HS := Lib.hid hple
        have HH : Hid (bits .xor .u32 X ((P : Int) + 1 + 1) = ((sx (bt l) k ^^^ pl k : Nat) : Int)) := Lib.hid (by rw [hple]; exact HX)
        have HBI := Lib.hid hbit
        have HPV : Hid (P + 1 + 1 = pv (k + 1)) := Lib.hid (by rw [← pv_step]; exact hpl)
        have HO : O < 40000 := by have := cn_le (bt l) k; rw [← ho.out] at this; omega
        have HXs : Hid (sx (bt l) k < 65536 ∧ pl k < 65536) := Lib.hid ⟨hsx, hpls⟩
        clear hbit hple hpl HX hpls hsx
        go_wp2
        · have ht : (bits .and .u8 (B / 2 ^ (k % 8)) 1 == 1) = true := by assumption
          go_roundw
          case rel =>
            have ht2 : bt l k = true := by rw [← HBI.out]; exact ht
            have hxs : sx (bt l) k ^^^ pl k < 65536 := Nat.xor_lt_two_pow (n := 16) HXs.out.1 HXs.out.2
            exact ⟨k + 1, _, O + 1, P + 1 + 1, by omega, by go_num, rfl, by go_num, by go_num, by rw [HH.out]; exact ⟨by omega, by omega⟩, Lib.hid (by rw [HH.out, sx_yes ht2]), Lib.hid (by rw [cn_yes ht2, ho.out]), HPV, Lib.hid (bon hb.out hb2)⟩
          case measure => simp [intOf]; omega
        · have ht : (bits .and .u8 (B / 2 ^ (k % 8)) 1 == 1) = false := by assumption
          go_roundw
          case rel =>
            have ht2 : bt l k = false := by rw [← HBI.out]; exact ht
            exact ⟨k + 1, X, O, P + 1 + 1, by omega, by go_num, rfl, rfl, by go_num, hX, Lib.hid (by rw [hx.out, sx_no ht2]), Lib.hid (by rw [cn_no ht2, ho.out]), HPV, Lib.hid (bon hb.out hb2)⟩
          case measure => simp [intOf]; omega
    · have hkn : k = 8 * n := by omega
      subst hkn
      have hsx := sx_small (bt l) (8 * n) (by omega)
      have HC : Hid (Calls Try.prog 38 #[.int .u32 X] wr fun e w' => e = .returned (.int .i64 (on (sx (bt l) (8 * n)) 17 : Nat)) ∧ Below wr.heap.size wr w') := by
        have h := ones32_any X wr hX
        rw [hx.out, Int.toNat_natCast, on_more (n := 17) (by omega) (by decide)] at h
        rw [hx.out]
        exact Lib.hid h
      have hon := on_le (sx (bt l) (8 * n)) 17
      have HCB : ∀ q, on (sx (bt l) (8 * n)) 17 = q → Hid (cb l = sx (bt l) (8 * n) + 65536 * ((O + q) % 2)) := by
        intro q hq
        exact Lib.hid (by unfold cb cd; rw [hl, hq, ho.out])
      have HCB1 := HCB _ rfl
      clear HCB
      generalize on (sx (bt l) (8 * n)) 17 = q at HC hon HCB1
      have HO : O < 40000 := by have := cn_le (bt l) (8 * n); rw [← ho.out] at this; omega
      have HOR : Hid (bits .or .u32 X 65536 = ((sx (bt l) (8 * n) + 65536 : Nat) : Int)) := Lib.hid (by rw [hx.out]; exact or_par hsx)
      clear hsx
      go_wp2_with fail
      refine HC.out.mono ?_
      rintro e w2 ⟨rfl, hb2⟩
      go_wp2
      · have ht : (((O : Int) + (q : Int)) % 2 == 1) = true := by assumption
        have ho2 : (O + q) % 2 = 1 := by have := eq_of_beq ht; omega
        go_ret
        exact ⟨by rw [HOR.out, HCB1.out, ho2]; rfl, bon hb.out hb2⟩
      · have ht : (((O : Int) + (q : Int)) % 2 == 1) = false := by assumption
        have ho2 : (O + q) % 2 = 0 := by have := ne_of_beq_false ht; omega
        go_ret
        exact ⟨by rw [HCB1.out, ho2, hx.out]; rfl, bon hb.out hb2⟩
end Go.Proofs.Ytdcpbbfaakddaaa
