/-
  The program's Code and Mend.
-/
import Derived.Test.YtdcpbbfaakddaaaEccJudge
namespace Go.Proofs.Ytdcpbbfaakddaaa
open Go.RowKit Crcm Eccm

/-- the row of an own block: a bit is turned -/
theorem turn_any (g n c k : Nat) (l : List Int) (w : World) (base : Nat) (hown : w.ownsRow base 5 1 (.slice (some ⟨g, 0, none⟩) n c) n (l.map (Value.int .u8))) (hU : ∀ m ∈ l, U8 m) (hk : k < 8 * n) (hn : n ≤ 4096) :
    Calls Try.prog 29 #[.slice (some ⟨g, 0, none⟩) n c, .int .i64 k] w fun e w' => e = .returned (.tuple #[]) ∧ w'.ownsRow base 5 1 (.slice (some ⟨g, 0, none⟩) n c) n ((tn l k).map (Value.int .u8)) ∧ Below base w w' := by
  have hln : l.length = n := by simpa using hown.1
  have hin : k / 8 < n := by omega
  have hcell : w.cell? ⟨g, k / 8, none⟩ = some (.int .u8 (l.getD (k / 8) 0)) := by
    rw [hown.cellAt (k / 8) (by omega), List.getElem?_map]
    simp [hln, hin]
  have hf := hown.frozenAt (k / 8)
  have hst := hown.stored (k / 8) (.int .u8 ((l.getD (k / 8) 0).toNat ^^^ 2 ^ (k % 8) : Nat))
  have hB : U8 (l.getD (k / 8) 0) := by rw [List.getD_eq_getElem?_getD, List.getElem?_eq_getElem (by omega)]; exact hU _ (List.getElem_mem (by omega))
  have hg := (hown.lt g rfl).1
  have e0 : (l.map (Value.int .u8)).set (k / 8) (.int .u8 ((l.getD (k / 8) 0).toNat ^^^ 2 ^ (k % 8) : Nat)) = (tn l k).map (Value.int .u8) := by
    unfold tn; rw [List.map_set]
  rw [e0] at hst
  have HST := Lib.hid hst.1
  generalize l.getD (k / 8) 0 = B at hcell hB HST
  have hx : bits .xor .u8 B (2 ^ (k % 8) % 256) = ((B.toNat ^^^ 2 ^ (k % 8) : Nat) : Int) := by
    obtain ⟨h0, h1⟩ := hB
    have hp : 2 ^ (k % 8) < 256 := (Nat.pow_lt_pow_iff_right (by decide)).2 (by omega : k % 8 < 8)
    obtain ⟨M, rfl⟩ : ∃ M : Nat, B = M := ⟨B.toNat, by omega⟩
    have hp2 : (2 : Int) ^ (k % 8) = ((2 ^ (k % 8) : Nat) : Int) := by simp
    rw [hp2]
    generalize 2 ^ (k % 8) = p at hp ⊢
    rw [show ((p : Int) % 256) = (p : Int) by omega, u8_xor_nat _ _ (by omega) hp, Int.toNat_natCast]
  have HX := Lib.hid hx
  clear hst e0 hx hB hU hown hln
  go_enter Try.func29, Try.ntmps29
  go_region
  rw [HX.out]
  go_end0
  exact ⟨rfl, own_below HST.out (Below.drew (Below.refl _ _)), Below.drew (Below.setCell (Below.refl _ _) hg _)⟩

theorem code_no (a : Option Addr) (n c : Nat) (w : World) (hn : n ≤ maxLen) (h : ¬ (1 ≤ n ∧ n ≤ 4096)) :
    Calls Try.prog 11 #[.slice a n c] w fun e w' => e = .returned (.tuple #[.int .u32 0, .int .i64 1]) ∧ w = w' := by
  have HB := Lib.hid (block_any a n c w hn)
  rw [decide_eq_false h] at HB
  go_enter Try.func11, Try.ntmps11
  go_wp2_with fail
  refine HB.out.mono ?_
  rintro e w2 ⟨rfl, rfl⟩
  go_wp2
  go_ret2
  exact ⟨rfl, rfl⟩
theorem code_yes (b off n c : Nat) (l : List Int) (w : World) (hr : Rw w (some ⟨b, off, none⟩) l) (hl : l.length = n) (h0 : 1 ≤ n) (hn : n ≤ 4096) :
    Calls Try.prog 11 #[.slice (some ⟨b, off, none⟩) n c] w fun e w' => e = .returned (.tuple #[.int .u32 (cb l : Nat), .int .i64 0]) ∧ Below w.heap.size w w' := by
  have HB := Lib.hid (block_any (some ⟨b, off, none⟩) n c w (by unfold maxLen; omega))
  rw [decide_eq_true ⟨h0, hn⟩] at HB
  have HC := Lib.hid (codeOf_any b off n c l w hr hl hn)
  go_enter Try.func11, Try.ntmps11
  go_wp2_with fail
  refine HB.out.mono ?_
  rintro e w2 ⟨rfl, rfl⟩
  go_wp2_with fail
  refine HC.out.mono ?_
  rintro e w2 ⟨rfl, hb⟩
  go_wp2
  go_ret2
  exact ⟨rfl, hb⟩

/-- bytes cloned, then seen as a row -/
theorem mend_no (a : Option Addr) (n c : Nat) (C : Int) (w : World) (hn : n ≤ maxLen) (h : ¬ (1 ≤ n ∧ n ≤ 4096) ∨ 131072 ≤ C) :
    Calls Try.prog 13 #[.slice a n c, .int .u32 C] w fun e w' => e = .returned (.tuple #[.slice none 0 0, .int .i64 0, .int .i64 1]) ∧ w = w' := by
  have HB := Lib.hid (block_any a n c w hn)
  by_cases hb : 1 ≤ n ∧ n ≤ 4096
  · have hc : 131072 ≤ C := by rcases h with h | h; exact absurd hb h; exact h
    have t : decide ((131072 : Int) ≤ C) = true := by simpa using hc
    rw [decide_eq_true hb] at HB
    clear hc hn h hb
    go_enter Try.func13, Try.ntmps13
    go_wp2_with fail
    refine HB.out.mono ?_
    rintro e w2 ⟨rfl, rfl⟩
    go_wp2
    go_ret3
    exact ⟨rfl, rfl⟩
  · rw [decide_eq_false hb] at HB
    clear hn h hb
    go_enter Try.func13, Try.ntmps13
    go_wp2_with fail
    refine HB.out.mono ?_
    rintro e w2 ⟨rfl, rfl⟩
    go_wp2
    go_ret3
    exact ⟨rfl, rfl⟩

theorem mx_none {l : List Int} {c : Nat} (h : mb l c = none) : mx l c = [] ∧ mk l c = 0 ∧ me l c = 21 := by
  unfold mx mk me; rw [h]; exact ⟨rfl, rfl, rfl⟩
theorem mx_low {l : List Int} {c : Nat} {r : Int} (h : mb l c = some r) (hr : r < 0) : mx l c = l ∧ mk l c = r ∧ me l c = 0 := by
  unfold mx mk me; rw [h]; exact ⟨if_neg (by omega), rfl, rfl⟩
theorem mx_bit {l : List Int} {c k : Nat} (h : mb l c = some (k : Int)) : mx l c = tn l k ∧ mk l c = k ∧ me l c = 0 := by
  unfold mx mk me; rw [h]; exact ⟨by show (if 0 ≤ (k : Int) then _ else _) = _; rw [if_pos (by omega)]; rfl, rfl, rfl⟩

set_option maxRecDepth 100000 in
set_option maxHeartbeats 1000000 in
theorem mend_yes (b off n c C : Nat) (l : List Int) (w : World) (hr : Rw w (some ⟨b, off, none⟩) l) (hl : l.length = n) (h0 : 1 ≤ n) (hn : n ≤ 4096) (hc : C < 131072) :
    Calls Try.prog 13 #[.slice (some ⟨b, off, none⟩) n c, .int .u32 C] w fun e w' => (∃ A m cap, e = .returned (.tuple #[.slice A m cap, .int .i64 (mk l C), .int .i64 (me l C)]) ∧ (mx l C).length = m ∧ m ≤ cap ∧ Rw w' A (mx l C)) ∧ Below w.heap.size w w' := by
  have HB := Lib.hid (block_any (some ⟨b, off, none⟩) n c w (by unfold maxLen; omega))
  rw [decide_eq_true ⟨h0, hn⟩] at HB
  have HJ := Lib.hid (judge_any b off n c C l w hr hl hn hc)
  have t : decide ((131072 : Int) ≤ (C : Int)) = false := by simp; omega
  have hU := hr.1
  clear hc
  rcases mb_cases l C with h | h | h | ⟨k, hk, h⟩
  · obtain ⟨e1, e2, e3⟩ := mx_none h
    rw [e1, e2, e3]
    rw [h] at HJ
    clear e1 e2 e3 h
    go_enter Try.func13, Try.ntmps13
    go_wp2_with fail
    refine HB.out.mono ?_
    rintro e w2 ⟨rfl, rfl⟩
    go_wp2_with fail
    refine HJ.out.mono ?_
    rintro e w2 ⟨rfl, hb⟩
    unfold jK jB
    go_wp2
    go_ret3
    exact ⟨⟨none, 0, 0, rfl, rfl, Nat.le_refl _, Rw.nil⟩, hb⟩
  · obtain ⟨e1, e2, e3⟩ := mx_low h (by decide)
    rw [e1, e2, e3]
    rw [h] at HJ
    clear e1 e2 e3 h
    go_enter Try.func13, Try.ntmps13
    go_wp2_with fail
    refine HB.out.mono ?_
    rintro e w2 ⟨rfl, rfl⟩
    go_wp2_with fail
    refine HJ.out.mono ?_
    rintro e w2 ⟨rfl, hb⟩
    have ej : jK (some (-1)) = 0 := by decide
    rw [ej]
    clear ej
    go_wp2_with fail
    refine (bclone_any n c b off l w2 (hr.below hb) hl ⟨by omega, by omega⟩).mono ?_
    rintro e w3 ⟨⟨g, cc, rfl, hcc, hg, hO⟩, hb3⟩
    go_wp2
    go_ret3
    obtain ⟨A, cap, he, hR, -, hq⟩ := Rw.of_own hO hU
    injection he with e1 e2 e3
    subst e1 e3
    exact ⟨⟨_, n, _, rfl, hl, hq, hR⟩, bon hb hb3⟩
  · obtain ⟨e1, e2, e3⟩ := mx_low h (by decide)
    rw [e1, e2, e3]
    rw [h] at HJ
    clear e1 e2 e3 h
    go_enter Try.func13, Try.ntmps13
    go_wp2_with fail
    refine HB.out.mono ?_
    rintro e w2 ⟨rfl, rfl⟩
    go_wp2_with fail
    refine HJ.out.mono ?_
    rintro e w2 ⟨rfl, hb⟩
    have ej : jK (some (-2)) = 2 := by decide
    rw [ej]
    clear ej
    go_wp2_with fail
    refine (bclone_any n c b off l w2 (hr.below hb) hl ⟨by omega, by omega⟩).mono ?_
    rintro e w3 ⟨⟨g, cc, rfl, hcc, hg, hO⟩, hb3⟩
    go_wp2
    go_ret3
    obtain ⟨A, cap, he, hR, -, hq⟩ := Rw.of_own hO hU
    injection he with e1 e2 e3
    subst e1 e3
    exact ⟨⟨_, n, _, rfl, hl, hq, hR⟩, bon hb hb3⟩
  · obtain ⟨e1, e2, e3⟩ := mx_bit h
    rw [e1, e2, e3]
    rw [h, jK_bit, jB_bit] at HJ
    have hk8 : k ≤ 32768 := by omega
    clear e1 e2 e3 h
    go_enter Try.func13, Try.ntmps13
    go_wp2_with fail
    refine HB.out.mono ?_
    rintro e w2 ⟨rfl, rfl⟩
    go_wp2_with fail
    refine HJ.out.mono ?_
    rintro e w2 ⟨rfl, hb⟩
    go_wp2_with fail
    refine (bclone_any n c b off l w2 (hr.below hb) hl ⟨by omega, by omega⟩).mono ?_
    rintro e w3 ⟨⟨g, cc, rfl, hcc, hg, hO⟩, hb3⟩
    have HO := Lib.hid hO
    clear hO
    go_wp2_with fail
    refine (turn_any g n cc k l w3 _ HO.out hU (by omega) hn).mono ?_
    rintro e w4 ⟨rfl, hO4, hb4⟩
    have HO4 := Lib.hid hO4
    clear hO4
    go_wp2
    go_ret3
    obtain ⟨A, cap, he, hR, -, hq⟩ := Rw.of_own HO4.out (tn_U8 _ _ hU)
    injection he with e1 e2 e3
    subst e1 e3
    exact ⟨⟨_, n, _, rfl, by rw [tn_length]; exact hl, hq, hR⟩, bon hb (hb3.trans hb4)⟩
end Go.Proofs.Ytdcpbbfaakddaaa
