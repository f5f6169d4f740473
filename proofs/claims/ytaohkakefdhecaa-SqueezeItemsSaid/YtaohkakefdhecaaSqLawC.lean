/-
  The law SqueezeBack.
-/
import Derived.Test.YtaohkakefdhecaaSqLawB
import Derived.Test.YtaohkakefdhecaaSqBack
namespace Go.Proofs.Ytaohkakefdhecaa
open Go.RowKit Go.Shelf Crcm Sqm Tagm Inom Roomm Go.ChangeShapes

theorem own_cap {w : World} {base n : Nat} {a : Option Addr} {cap : Nat} {e : TypeId} {xs : List Value} (h : w.ownsRow base e 1 (.slice a n cap) n xs) : cap ≤ 9223372036854775807 := by
  rcases h.2 with ⟨h, _⟩ | ⟨g, c, cur, h, _, _, _, hc, _⟩
  · injection h; omega
  · injection h with _ _ h; unfold maxLen at hc; omega

set_option maxRecDepth 100000 in
set_option maxHeartbeats 1000000 in
theorem squeezeBack_walk (a : Option Addr) (len cap : Nat) (z : List Int) (w : World) (hz : Row8 w a len cap z) :
    Calls Try.prog 6 #[.slice a len cap] w fun e w' => e = .returned (.bool true) ∧ Below w.heap.size w w' := by
  obtain ⟨l, hl, hc, hr, -⟩ := hz.rw
  by_cases h : 3000 < len
  · have h3 : decide ((3000 : Int) < (len : Int)) = true := by simp; omega
    clear h hr hc hl hz
    go_enter Try.func6, Try.ntmps6
    go_wp2_with fail
    refine (known_any w).mono ?_
    rintro e w2 ⟨rfl, hb⟩
    go_wp2
    go_ret
    exact ⟨rfl, hb⟩
  · have h3 : decide ((3000 : Int) < (len : Int)) = false := by simp; omega
    have hlI : (len : Int) ≤ 3000 := by omega
    have H1 := Lib.hid (squeeze_yes a len cap l w hr hl hc (by omega))
    have HR := Lib.hid hr
    have HL := Lib.hid hl
    clear h hr hc hz hl
    go_enter Try.func6, Try.ntmps6
    go_wp2_with fail
    refine H1.out.mono ?_
    rintro e w1 ⟨⟨A, n, cp, rfl, ho⟩, hb⟩
    have hcp := own_cap ho
    obtain ⟨A', cp', he, hRw, hn, hle⟩ := Rw.of_own ho (sqA_U8 HR.out.1)
    injection he with e1 _ e3
    subst e1 e3
    have hn4 := sqA_len l
    rw [HL.out, hn] at hn4
    have hnI : (n : Int) ≤ (len : Int) + (len : Int) / 4 + 1 := by omega
    have hnI2 : (n : Int) ≤ 4000 := by omega
    have H2 := open_yes A n cp len (sqA l) w1 hRw hn hle hcp (by omega)
    obtain ⟨k1, k2⟩ := back l
    rw [HL.out] at k1 k2
    rw [k1, k2] at H2
    have HO := Lib.hid H2
    clear ho hRw hn hle hcp hn4 k1 k2 H2
    go_wp2_with fail
    refine HO.out.mono ?_
    rintro e w2 ⟨⟨B, c2, rfl, -, hB⟩, hb2⟩
    have HB := Lib.hid (bonq hb hb2)
    have HS := Lib.hid (same_any a B cap c2 len l.length l l w2 (HR.out.below (bonq hb hb2)) hB HL.out rfl)
    rw [decide_eq_true rfl] at HS
    clear hb hb2 hB
    go_wp2_with fail
    refine HS.out.mono ?_
    rintro e w4 ⟨rfl, rfl⟩
    go_wp2_with fail
    refine (known_any w2).mono ?_
    rintro e w4 ⟨rfl, hb4⟩
    go_wp2
    go_ret
    exact ⟨rfl, bonq HB.out hb4⟩
end Go.Proofs.Ytaohkakefdhecaa
