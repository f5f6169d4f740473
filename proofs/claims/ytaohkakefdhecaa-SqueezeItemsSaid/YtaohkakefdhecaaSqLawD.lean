/-
  The law SqueezeBegins.
-/
import Derived.Test.YtaohkakefdhecaaSqRefItems
import Derived.Test.YtaohkakefdhecaaAmongB
namespace Sqm
open Go
theorem its_len (l : List Int) : ∀ K, (its l K).length = K * 3
  | 0 => rfl
  | K + 1 => by rw [its, List.length_append, its_len l K]; simp; omega
theorem its_at (l : List Int) {k : Nat} : ∀ K, k < K → (its l K)[k * 3 + 2]? = some (.int .i64 (pl l (k + 1) : Int))
  | 0, h => absurd h (Nat.not_lt_zero _)
  | K + 1, h => by
    rw [its]
    rcases Nat.lt_succ_iff_lt_or_eq.1 h with h | rfl
    · rw [List.getElem?_append_left (by rw [its_len]; omega)]; exact its_at l K h
    · rw [List.getElem?_append_right (by rw [its_len]; omega), its_len, show k * 3 + 2 - k * 3 = 2 by omega]; rfl
theorem all_wh {l : List Int} {most : Nat} (h : oE l most = 0) : ∀ j, j < kn l → wh l (pl l j) = true := fun j hj => by
  have h0 : fe l most j = 0 := fe_zero h (by omega)
  have h1 : fe l most (j + 1) = 0 := fe_zero h hj
  rw [fe_at h0] at h1
  exact (er_ok.1 h1).1
end Sqm
namespace Go.Proofs.Ytaohkakefdhecaa
open Go.RowKit Go.Shelf Crcm Sqm Tagm Inom Roomm Go.ChangeShapes
theorem its_cell {w : World} {base K cap : Nat} {A : Option Addr} {l : List Int} (h : w.ownsRow base 38 3 (.slice A K cap) K (its l K)) {k : Nat} (hk : k < K) : ∃ g, A = some ⟨g, 0, none⟩ ∧ w.cell? ⟨g, k * 3 + 2, none⟩ = some (.int .i64 (pl l (k + 1) : Int)) := by
  rcases h.2 with ⟨_, h0⟩ | ⟨g, c, cur, he, _, hg, hn, _, hs, ht⟩
  · omega
  · injection he with e1
    refine ⟨g, e1, ?_⟩
    rw [cell_of_row w g (k * 3 + 2) cur 38 (0, 0) hg, ← its_at l K hk, ← ht, List.getElem?_take_of_lt (by omega), Array.getElem?_toList]

set_option maxRecDepth 100000 in
set_option maxHeartbeats 1000000 in
theorem squeezeBegins_walk (a : Option Addr) (len cap : Nat) (z : List Int) (at_ : Int) (w : World) (hz : Row8 w a len cap z) (w1 : (Lit.int .i64 at_).wf = true) :
    Calls Try.prog 7 #[.slice a len cap, .int .i64 at_] w fun e w' => e = .returned (.bool true) ∧ Below w.heap.size w w' := by
  have hcap : cap ≤ 9223372036854775807 := by
    rcases hz with ⟨_, _, rfl, _⟩ | ⟨x, _, _, h, _⟩
    · omega
    · unfold maxLen at h; omega
  obtain ⟨l, hl, hc, hr, -⟩ := hz.rw
  have hn : len ≤ maxLen := by have := hr.2.1; omega
  have HG0 := lng_any a len cap w hn
  by_cases h : (900 < len ∧ len ≤ 65536) ∨ 70000 < len
  · rw [decide_eq_true h] at HG0
    have HG := Lib.hid HG0
    clear h hn HG0
    go_enter Try.func7, Try.ntmps7
    go_wp2_with fail
    refine HG.out.mono ?_
    rintro e w2 ⟨rfl, rfl⟩
    go_wp2_with fail
    refine (known_any w).mono ?_
    rintro e w2 ⟨rfl, hb⟩
    go_wp2
    go_ret
    exact ⟨rfl, hb⟩
  · rw [decide_eq_false h] at HG0
    have HG := Lib.hid HG0
    have H1 := Lib.hid (open_yes a len cap 1048576 l w hr hl hc hcap (by omega))
    have h7 : len ≤ 70000 := by omega
    have HR := Lib.hid hr
    have HL := Lib.hid hl
    clear h hn hr HG0
    go_enter Try.func7, Try.ntmps7
    go_wp2_with fail
    refine HG.out.mono ?_
    rintro e w2 ⟨rfl, rfl⟩
    go_wp2_with fail
    refine H1.out.mono ?_
    rintro e w2 ⟨⟨A, c1, rfl, hc1, hA⟩, hb⟩
    have HA := Lib.hid hA
    have HB := Lib.hid hb
    clear hA hb
    by_cases hE : oE l 1048576 = 0
    · have t0 : (oE l 1048576 != 0) = false := by simp [hE]
      have HAW := Lib.hid (all_wh hE)
      have HE := Lib.hid hE
      rw [hE]
      clear hE
      go_wp2_with fail
      refine (ritems_any a len cap l w2 (HR.out.below HB.out) HL.out h7).mono ?_
      rintro e w3 ⟨⟨K, I, ci, rfl, ho, hk1, hk2, hk3⟩, hb3⟩
      have hKn : K = kn l := by
        rcases hk3 with h | ⟨h, h2⟩
        · exact h
        · rw [HAW.out K h] at h2; cases h2
      have HO := Lib.hid ho
      have HB3 := Lib.hid (bonq HB.out hb3)
      have HB23 := Lib.hid hb3
      clear ho hk1 hk2 hk3 hb3
      by_cases hK0 : K = 0
      · have hl0 : len = 0 := by have h1 := pl_kn l; have := HL.out; rw [← hKn, hK0] at h1; simp [pl] at h1; rw [← this, h1]
        subst hK0
        subst hl0
        clear hKn
        go_wp2_with fail
        refine (known_any w3).mono ?_
        rintro e w4 ⟨rfl, hb4⟩
        go_wp2
        go_ret
        exact ⟨rfl, bonq HB3.out hb4⟩
      · have hKI : 0 < (K : Int) := by omega
        have hK7 : K ≤ 70000 := by rw [hKn]; have := kn_le l; have := HL.out; omega
        have ha1 := am_lo at_ (K : Int)
        have ha2 := am_hi at_ (K : Int) (by omega)
        obtain ⟨k, hk⟩ : ∃ k : Nat, am at_ (K : Int) = (k : Int) := ⟨(am at_ (K : Int)).toNat, by omega⟩
        have hAm := among_any at_ (K : Int) w3 (bounds_i64 w1).1 (bounds_i64 w1).2 (by omega)
        rw [hk] at hAm ha2
        have hkK : k < K := by omega
        have HAm := Lib.hid hAm
        obtain ⟨g, rfl, hcell⟩ := its_cell HO.out hkK
        obtain ⟨p1, p2, r, p3⟩ := pre (b := l) (most := 1048576) HE.out (by rw [← hKn]; exact hkK)
        have hE1 : pl l (k + 1) ≤ len := by have := pl_le l (k + 1); have := HL.out; omega
        have HPt : Hid (Rw w3 a (l.take (pl l (k + 1)))) := Lib.hid ((HR.out.below HB3.out).take _)
        have HPl : Hid ((l.take (pl l (k + 1))).length = pl l (k + 1)) := Lib.hid (by rw [List.length_take]; have := HL.out; omega)
        have hOp := open_yes a (pl l (k + 1)) cap 1048576 (l.take (pl l (k + 1))) w3 HPt.out HPl.out (by omega) hcap (by omega)
        rw [p1, p2] at hOp
        have hlen : (oO l 1048576).length = (ou l (k + 1)).length + r.length := by rw [p3, List.length_append]
        have hAll := HA.out.below HB23.out
        rw [p3] at hAll
        obtain ⟨N, hN⟩ : ∃ N, (oO l 1048576).length = N := ⟨_, rfl⟩
        obtain ⟨P, hP⟩ : ∃ P, (ou l (k + 1)).length = P := ⟨_, rfl⟩
        have HP := Lib.hid hP
        obtain ⟨E, hE⟩ : ∃ E, pl l (k + 1) = E := ⟨_, rfl⟩
        rw [hN] at hc1 ⊢
        rw [hN, hP] at hlen
        rw [hP, hE] at hOp
        rw [hE] at hE1 hcell
        have hPN : P ≤ N := by omega
        have HOp := Lib.hid hOp
        have HAll := Lib.hid hAll
        have hEc : E ≤ cap := by omega
        have hPc : P ≤ c1 := by omega
        clear hKn hK0 ha1 ha2 hk hAm p1 p2 p3 HPt HPl hOp hlen hAll hN hP hE HO HE HAW HA hK7
        go_wp2_with fail
        refine HAm.out.mono ?_
        rintro e w4 ⟨rfl, rfl⟩
        go_wp2_with fail
        refine HOp.out.mono ?_
        rintro e w4 ⟨⟨B, c2, rfl, -, hB⟩, hb4⟩
        have HB4 := Lib.hid (bonq HB3.out hb4)
        have hAll := HAll.out.below hb4
        have HS := Lib.hid (same_any B A c2 c1 P P (ou l (k + 1)) (ou l (k + 1)) w4 hB (by have := hAll.take P; rwa [List.take_append_of_le_length (Nat.le_of_eq HP.out.symm), List.take_of_length_le (Nat.le_of_eq HP.out)] at this) HP.out HP.out)
        rw [decide_eq_true rfl] at HS
        clear hB hb4 hAll hcell
        go_wp2_with fail
        refine HS.out.mono ?_
        rintro e w5 ⟨rfl, rfl⟩
        go_wp2_with fail
        refine (known_any w4).mono ?_
        rintro e w5 ⟨rfl, hb5⟩
        go_wp2
        go_ret
        exact ⟨rfl, bonq HB4.out hb5⟩
    · have t0 : (oE l 1048576 == 0) = false := by simp [hE]
      have t1 : (oE l 1048576 != 0) = true := by simp [hE]
      go_wp2_with fail
      refine (known_any w2).mono ?_
      rintro e w3 ⟨rfl, hb3⟩
      go_wp2
      go_ret
      exact ⟨rfl, bonq HB.out hb3⟩
end Go.Proofs.Ytaohkakefdhecaa
