/-
  The laws EccCodes, EccMends and EccWhole.
-/
import Derived.Test.YtdcpbbfaakddaaaEccKnown
namespace Go.Proofs.Ytdcpbbfaakddaaa
open Go.RowKit Crcm Eccm Go.ChangeShapes

/-- a law that looks at too many bytes -/
theorem guard_any (a : Option Addr) (n c : Nat) (w : World) (hn : n ≤ maxLen) (h : (600 < n ∧ n ≤ 4096) ∨ 5000 < n) :
    Calls Try.prog 9 #[.slice a n c] w fun e w' => e = .returned (.bool true) ∧ w = w' := by
  have := long_any a n c w hn
  rwa [decide_eq_true h] at this
theorem short_any (a : Option Addr) (n c : Nat) (w : World) (hn : n ≤ maxLen) (h : ¬ ((600 < n ∧ n ≤ 4096) ∨ 5000 < n)) :
    Calls Try.prog 9 #[.slice a n c] w fun e w' => e = .returned (.bool false) ∧ w = w' := by
  have := long_any a n c w hn
  rwa [decide_eq_false h] at this
theorem code_both (a : Option Addr) (n c : Nat) (l : List Int) (w : World) (hr : Rw w a l) (hl : l.length = n) (hn : n ≤ maxLen) :
    ∃ X E : Int, (Calls Try.prog 11 #[.slice a n c] w fun e w' => e = .returned (.tuple #[.int .u32 X, .int .i64 E]) ∧ Below w.heap.size w w') ∧
      ∀ w', Rw w' a l → Calls Try.prog 12 #[.slice a n c] w' fun e w'' => e = .returned (.tuple #[.int .u32 X, .int .i64 E]) ∧ Below w'.heap.size w' w'' := by
  by_cases h : 1 ≤ n ∧ n ≤ 4096
  · obtain ⟨b, off, rfl⟩ := hr.addr (by omega)
    exact ⟨_, _, code_yes b off n c l w hr hl h.1 h.2, fun w' hr' => rcode_yes b off n c l w' hr' hl h.1 h.2⟩
  · refine ⟨0, 1, (code_no a n c w hn h).mono ?_, fun w' _ => (rcode_no a n c w' h hn).mono ?_⟩
    · rintro e w' ⟨rfl, rfl⟩; exact ⟨rfl, Below.refl _ _⟩
    · rintro e w' ⟨rfl, rfl⟩; exact ⟨rfl, Below.refl _ _⟩

set_option maxRecDepth 100000 in
set_option maxHeartbeats 1000000 in
theorem eccCodes_walk (a : Option Addr) (len cap : Nat) (z : List Int) (w : World) (hz : Row8 w a len cap z) :
    Calls Try.prog 3 #[.slice a len cap] w fun e w' => e = .returned (.bool true) ∧ Below w.heap.size w w' := by
  obtain ⟨l, hl, hc, hr, -⟩ := hz.rw
  have hn : len ≤ maxLen := by have := hr.2.1; omega
  by_cases h : (600 < len ∧ len ≤ 4096) ∨ 5000 < len
  · have HG := Lib.hid (guard_any a len cap w hn h)
    clear h hn
    go_enter Try.func3, Try.ntmps3
    go_wp2_with fail
    refine HG.out.mono ?_
    rintro e w2 ⟨rfl, rfl⟩
    go_wp2_with fail
    refine (known_any w).mono ?_
    rintro e w2 ⟨rfl, hb⟩
    go_wp2
    go_ret
    exact ⟨rfl, hb⟩
  · have HG := Lib.hid (short_any a len cap w hn h)
    obtain ⟨X, E, h1, h2⟩ := code_both a len cap l w hr hl hn
    have H1 := Lib.hid h1
    have H2 := Lib.hid h2
    have HR := Lib.hid hr
    clear h hn h1 h2 hr
    go_enter Try.func3, Try.ntmps3
    go_wp2_with fail
    refine HG.out.mono ?_
    rintro e w2 ⟨rfl, rfl⟩
    go_wp2_with fail
    refine H1.out.mono ?_
    rintro e w2 ⟨rfl, hb⟩
    go_wp2_with fail
    refine (H2.out w2 (HR.out.below hb)).mono ?_
    rintro e w3 ⟨rfl, hb3⟩
    go_wp2_with fail
    refine (known_any w3).mono ?_
    rintro e w4 ⟨rfl, hb4⟩
    go_wp2
    go_ret
    exact ⟨rfl, bon (bon hb hb3) hb4⟩

/-- what an answer of Mend holds -/
def Md (e : Ending) (w : World) (Y : List Int) (K E : Int) : Prop := ∃ A cap, e = .returned (.tuple #[.slice A Y.length cap, .int .i64 K, .int .i64 E]) ∧ Rw w A Y
theorem mend_both (a : Option Addr) (n c : Nat) (C : Int) (l : List Int) (w : World) (hr : Rw w a l) (hl : l.length = n) (hn : n ≤ maxLen) (hnc : n ≤ c) (hC : U32 C) :
    ∃ (Y : List Int) (K E : Int), (Calls Try.prog 13 #[.slice a n c, .int .u32 C] w fun e w' => Md e w' Y K E ∧ Below w.heap.size w w') ∧
      ∀ w', Rw w' a l → Calls Try.prog 14 #[.slice a n c, .int .u32 C] w' fun e w'' => Md e w'' Y K E ∧ Below w'.heap.size w' w'' := by
  by_cases h : (1 ≤ n ∧ n ≤ 4096) ∧ C < 131072
  · obtain ⟨b, off, rfl⟩ := hr.addr (by omega)
    obtain ⟨h0, h1⟩ := hC
    obtain ⟨M, rfl⟩ : ∃ M : Nat, C = M := ⟨C.toNat, by omega⟩
    refine ⟨mx l M, mk l M, me l M, (mend_yes b off n c M l w hr hl h.1.1 h.1.2 (by omega)).mono ?_, fun w' hr' => (rmend_yes b off n c M l w' hr' hl h.1.1 h.1.2 hnc (by omega)).mono ?_⟩
    · rintro e w' ⟨⟨A, m, cap, rfl, rfl, -, hR⟩, hb⟩; exact ⟨⟨A, cap, rfl, hR⟩, hb⟩
    · rintro e w' ⟨⟨A, m, cap, rfl, rfl, -, hR⟩, hb⟩; exact ⟨⟨A, cap, rfl, hR⟩, hb⟩
  · refine ⟨[], 0, 1, (mend_no a n c C w hn (by omega)).mono ?_, fun w' _ => (rmend_no a n c C w' hn (by omega)).mono ?_⟩
    · rintro e w' ⟨rfl, rfl⟩; exact ⟨⟨none, 0, rfl, Rw.nil⟩, Below.refl _ _⟩
    · rintro e w' ⟨rfl, rfl⟩; exact ⟨⟨none, 0, rfl, Rw.nil⟩, Below.refl _ _⟩

set_option maxRecDepth 100000 in
set_option maxHeartbeats 1000000 in
theorem eccMends_walk (a : Option Addr) (len cap : Nat) (z : List Int) (C : Int) (w : World) (hz : Row8 w a len cap z) (w1 : (Lit.int .u32 C).wf = true) :
    Calls Try.prog 4 #[.slice a len cap, .int .u32 C] w fun e w' => e = .returned (.bool true) ∧ Below w.heap.size w w' := by
  obtain ⟨l, hl, hc, hr, -⟩ := hz.rw
  have hn : len ≤ maxLen := by have := hr.2.1; omega
  by_cases h : (600 < len ∧ len ≤ 4096) ∨ 5000 < len
  · have HG := Lib.hid (guard_any a len cap w hn h)
    clear h hn
    go_enter Try.func4, Try.ntmps4
    go_wp2_with fail
    refine HG.out.mono ?_
    rintro e w2 ⟨rfl, rfl⟩
    go_wp2_with fail
    refine (known_any w).mono ?_
    rintro e w2 ⟨rfl, hb⟩
    go_wp2
    go_ret
    exact ⟨rfl, hb⟩
  · have HG := Lib.hid (short_any a len cap w hn h)
    obtain ⟨Y, K, E, h1, h2⟩ := mend_both a len cap C l w hr hl hn hc (U32_wf w1)
    have H1 := Lib.hid h1
    have H2 := Lib.hid h2
    have HR := Lib.hid hr
    clear h hn h1 h2 hr w1
    go_enter Try.func4, Try.ntmps4
    go_wp2_with fail
    refine HG.out.mono ?_
    rintro e w2 ⟨rfl, rfl⟩
    go_wp2_with fail
    refine H1.out.mono ?_
    rintro e w2 ⟨⟨A, p, rfl, hA⟩, hb⟩
    have HA := Lib.hid hA
    clear hA
    go_wp2_with fail
    refine (H2.out w2 (HR.out.below hb)).mono ?_
    rintro e w3 ⟨⟨B, q, rfl, hB⟩, hb3⟩
    have HS := same_any A B p q Y.length Y.length Y Y w3 (HA.out.below hb3) hB rfl rfl
    rw [decide_eq_true rfl] at HS
    have HS := Lib.hid HS
    clear hB HA
    go_wp2_with fail
    refine HS.out.mono ?_
    rintro e w4 ⟨rfl, rfl⟩
    go_wp2_with fail
    refine (known_any w3).mono ?_
    rintro e w4 ⟨rfl, hb4⟩
    go_wp2
    go_ret
    exact ⟨rfl, bon (bon hb hb3) hb4⟩

set_option maxRecDepth 100000 in
set_option maxHeartbeats 1000000 in
theorem eccWhole_walk (a : Option Addr) (len cap : Nat) (z : List Int) (w : World) (hz : Row8 w a len cap z) :
    Calls Try.prog 6 #[.slice a len cap] w fun e w' => e = .returned (.bool true) ∧ Below w.heap.size w w' := by
  obtain ⟨l, hl, hc, hr, -⟩ := hz.rw
  have hn : len ≤ maxLen := by have := hr.2.1; omega
  by_cases h : (600 < len ∧ len ≤ 4096) ∨ 5000 < len
  · have HG := Lib.hid (guard_any a len cap w hn h)
    clear h hn
    go_enter Try.func6, Try.ntmps6
    go_wp2_with fail
    refine HG.out.mono ?_
    rintro e w2 ⟨rfl, rfl⟩
    go_wp2_with fail
    refine (known_any w).mono ?_
    rintro e w2 ⟨rfl, hb⟩
    go_wp2
    go_ret
    exact ⟨rfl, hb⟩
  · have HG := Lib.hid (short_any a len cap w hn h)
    by_cases hb : 1 ≤ len ∧ len ≤ 4096
    · obtain ⟨b, off, rfl⟩ := hr.addr (by omega)
      have HC := Lib.hid (code_yes b off len cap l w hr hl hb.1 hb.2)
      have hown : mb l (cb l) = some (-1) := mn_own _ (by omega)
      have hM : ∀ w', Rw w' (some ⟨b, off, none⟩) l → Calls Try.prog 13 #[.slice (some ⟨b, off, none⟩) len cap, .int .u32 (cb l : Nat)] w' fun e w'' => (∃ A p, e = .returned (.tuple #[.slice A len p, .int .i64 (-1), .int .i64 0]) ∧ Rw w'' A l) ∧ Below w'.heap.size w' w'' := by
        intro w' hr'
        refine (mend_yes b off len cap (cb l) l w' hr' hl hb.1 hb.2 (cb_lt (by omega))).mono ?_
        obtain ⟨m1, m2, m3⟩ := mx_low hown (by decide)
        rw [m1, m2, m3]
        rintro e w'' ⟨⟨A, m, p, rfl, rfl, -, hR⟩, hb⟩
        rw [hl]
        exact ⟨⟨A, p, rfl, hR⟩, hb⟩
      have HM := Lib.hid hM
      have HR := Lib.hid hr
      clear h hn hr hown hM
      go_enter Try.func6, Try.ntmps6
      go_wp2_with fail
      refine HG.out.mono ?_
      rintro e w2 ⟨rfl, rfl⟩
      go_wp2_with fail
      refine HC.out.mono ?_
      rintro e w2 ⟨rfl, hb2⟩
      go_wp2_with fail
      refine (HM.out w2 (HR.out.below hb2)).mono ?_
      rintro e w3 ⟨⟨A, p, rfl, hA⟩, hb3⟩
      have HS := same_any A (some ⟨b, off, none⟩) p cap len len l l w3 hA ((HR.out.below hb2).below hb3) hl hl
      rw [decide_eq_true rfl] at HS
      have HS := Lib.hid HS
      clear hA
      go_wp2_with fail
      refine HS.out.mono ?_
      rintro e w4 ⟨rfl, rfl⟩
      go_wp2_with fail
      refine (known_any w3).mono ?_
      rintro e w4 ⟨rfl, hb4⟩
      go_wp2
      go_ret
      exact ⟨rfl, bon (bon hb2 hb3) hb4⟩
    · have HC := Lib.hid (code_no a len cap w hn hb)
      clear h hn hr hb
      go_enter Try.func6, Try.ntmps6
      go_wp2_with fail
      refine HG.out.mono ?_
      rintro e w2 ⟨rfl, rfl⟩
      go_wp2_with fail
      refine HC.out.mono ?_
      rintro e w2 ⟨rfl, rfl⟩
      go_wp2_with fail
      refine (known_any w).mono ?_
      rintro e w2 ⟨rfl, hb⟩
      go_wp2
      go_ret
      exact ⟨rfl, hb⟩
end Go.Proofs.Ytdcpbbfaakddaaa
