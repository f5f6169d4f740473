/-
  The document's sums and codes, and a bit that it turns.
-/
import Derived.Test.YtdcpbbfaakddaaaEccRef
namespace Go.Proofs.Ytdcpbbfaakddaaa
open Go.RowKit Crcm Eccm

theorem xor_i64 {x p : Nat} (hx : x < 65536) (hp : p < 65536) : bits .xor .i64 (x : Int) (p : Int) = ((x ^^^ p : Nat) : Int) := i64_xor_nat _ _ (by omega) (by omega)

set_option maxRecDepth 100000 in
set_option maxHeartbeats 1000000 in
theorem sum_any (b off n c : Nat) (l : List Int) (w : World) (hr : Rw w (some ⟨b, off, none⟩) l) (hl : l.length = n) (hn : n ≤ 4096) :
    Calls Try.prog 25 #[.slice (some ⟨b, off, none⟩) n c] w fun e w' => e = .returned (.tuple #[.int .i64 (sx (bt l) (8 * n) : Nat), .int .i64 (cn (bt l) (8 * n) : Nat)]) ∧ Below w.heap.size w w' := by
  go_enter Try.func25, Try.ntmps25
  go_wp2_with fail
  refine (places_any n w hn).mono ?_
  rintro e w2 ⟨A, cp, rfl, hP, hb⟩
  have HP := Lib.hid hP
  have HB := Lib.hid hb
  clear hP hb
  go_wp2_with fail
  go_loopw [5, 6, 7] (fun x y i wr => ∃ k X Y : Nat, k ≤ 8 * n ∧ X ≤ 65535 ∧ Y ≤ 32768 ∧ x = .int .i64 X ∧ y = .int .i64 Y ∧ i = .int .i64 k ∧ Hid (X = sx (bt l) k) ∧ Hid (Y = cn (bt l) k) ∧ Hid (w2 = wr)) (fun _ _ i _ => 8 * n - (intOf i).toNat)
  case atStart => exact ⟨0, 0, 0, by omega, by omega, by omega, rfl, rfl, rfl, Lib.hid rfl, Lib.hid rfl, Lib.hid rfl⟩
  case round =>
    obtain ⟨k, X, Y, hk, hX, hY, rfl, rfl, rfl, hx, hy, hw⟩ := hrel
    obtain rfl := hw.out
    clear hw
    have hwT : Hid True := Lib.hid trivial
    by_cases hlt : k < 8 * n
    · have HC := Lib.hid (bit_any b off n c k l w2 (hr.below HB.out) hl hlt hn)
      rcases hbt : bt l k with _ | _
      · rw [hbt] at HC
        go_wp2_with fail
        refine HC.out.mono ?_
        rintro e w3 ⟨rfl, rfl⟩
        go_wp2
        go_roundw
        case rel => exact ⟨k + 1, X, Y, by omega, hX, hY, rfl, rfl, by go_num, Lib.hid (by rw [sx_no hbt]; exact hx.out), Lib.hid (by rw [cn_no hbt]; exact hy.out), hwT⟩
        case measure => simp [intOf]; omega
      · rw [hbt] at HC
        obtain ⟨b2, off2, rfl, hcell⟩ := HP.out.at (j := k) (by rw [pls_length]; exact hlt)
        rw [pls_get hlt] at hcell
        have hpl := pl_small (k := k) (by omega)
        have hxs := Nat.xor_lt_two_pow (n := 16) (show X < 2 ^ 16 by omega) hpl
        have HX := Lib.hid (xor_i64 (show X < 65536 by omega) hpl)
        have HS : Hid (X ^^^ pl k = sx (bt l) (k + 1)) := Lib.hid (by rw [sx_yes hbt, hx.out])
        have hY2 : Y + 1 ≤ 32768 := by have := cn_le (bt l) k; rw [← hy.out] at this; omega
        have hxs2 : X ^^^ pl k ≤ 65535 := by omega
        clear hxs hpl
        go_wp2_with fail
        refine HC.out.mono ?_
        rintro e w3 ⟨rfl, rfl⟩
        go_wp2
        rw [HX.out]
        go_roundw
        case rel => exact ⟨k + 1, X ^^^ pl k, Y + 1, by omega, hxs2, hY2, rfl, by go_num, by go_num, HS, Lib.hid (by rw [cn_yes hbt, hy.out]), hwT⟩
        case measure => simp [intOf]; omega
    · have hkn : k = 8 * n := by omega
      subst hkn
      go_wp2
      go_ret2
      exact ⟨by rw [← hx.out, ← hy.out]; rfl, HB.out⟩

set_option maxRecDepth 100000 in
theorem rcode_no (a : Option Addr) (n c : Nat) (w : World) (h : ¬ (1 ≤ n ∧ n ≤ 4096)) (hn : n ≤ maxLen) :
    Calls Try.prog 12 #[.slice a n c] w fun e w' => e = .returned (.tuple #[.int .u32 0, .int .i64 1]) ∧ w = w' := by
  rcases (by omega : n = 0 ∨ 4096 < n) with rfl | h
  · go_enter Try.func12, Try.ntmps12
    go_wp2
    go_ret2
    exact ⟨rfl, rfl⟩
  · have h0 : 1 ≤ n := by omega
    unfold maxLen at hn
    go_enter Try.func12, Try.ntmps12
    go_wp2
    go_ret2
    exact ⟨rfl, rfl⟩

set_option maxRecDepth 100000 in
set_option maxHeartbeats 1000000 in
theorem rcode_yes (b off n c : Nat) (l : List Int) (w : World) (hr : Rw w (some ⟨b, off, none⟩) l) (hl : l.length = n) (h0 : 1 ≤ n) (hn : n ≤ 4096) :
    Calls Try.prog 12 #[.slice (some ⟨b, off, none⟩) n c] w fun e w' => e = .returned (.tuple #[.int .u32 (cb l : Nat), .int .i64 0]) ∧ Below w.heap.size w w' := by
  have HS := Lib.hid (sum_any b off n c l w hr hl hn)
  have hx := sx_small (bt l) (8 * n) (by omega)
  have hc := cn_le (bt l) (8 * n)
  have HO : Hid (∀ w', Calls Try.prog 26 #[.int .i64 (sx (bt l) (8 * n) : Nat)] w' fun e w'' => e = .returned (.int .i64 (on (sx (bt l) (8 * n)) 17 : Nat)) ∧ w' = w'') := Lib.hid fun w' => ones_any _ w' (by omega)
  have hon := on_le (sx (bt l) (8 * n)) 17
  have HC : Hid (cb l = sx (bt l) (8 * n) + 65536 * ((cn (bt l) (8 * n) + on (sx (bt l) (8 * n)) 17) % 2)) := Lib.hid (by unfold cb cd; rw [hl])
  generalize on (sx (bt l) (8 * n)) 17 = q at HO HC hon
  generalize sx (bt l) (8 * n) = X at HS HO HC hx
  generalize cn (bt l) (8 * n) = Y at HS HC hc
  have hX : X ≤ 65535 := by omega
  have hY : Y ≤ 32768 := by omega
  clear hx hc
  go_enter Try.func12, Try.ntmps12
  go_wp2_with fail
  refine HS.out.mono ?_
  rintro e w2 ⟨rfl, hb⟩
  go_wp2_with fail
  refine (HO.out _).mono ?_
  rintro e w3 ⟨rfl, rfl⟩
  go_wp2
  go_ret2
  exact ⟨by rw [HC.out, show ((X + 65536 * ((Y + q) % 2) : Nat) : Int) = (X : Int) + 65536 * (((Y : Int) + (q : Int)) % 2) by omega]; rfl, hb⟩

theorem own_shape {w : World} {base n : Nat} {v : Value} {xs : List Value} {e : TypeId} (h : w.ownsRow base e 1 v n xs) (hn : 0 < n) : ∃ g cap, v = .slice (some ⟨g, 0, none⟩) n cap ∧ base ≤ g ∧ n ≤ cap := by
  rcases h.2 with ⟨_, h0⟩ | ⟨g, cap, cur, h, hg, _, hc, _⟩
  · rw [h0] at h; have := h.1; simp at this; omega
  · exact ⟨g, cap, h, hg, hc⟩

set_option maxRecDepth 100000 in
set_option maxHeartbeats 1000000 in
theorem rturned_any (b off n c k : Nat) (l : List Int) (w : World) (hr : Rw w (some ⟨b, off, none⟩) l) (hl : l.length = n) (hk : k < 8 * n) (hn : n ≤ 4096) :
    Calls Try.prog 21 #[.slice (some ⟨b, off, none⟩) n c, .int .i64 k] w fun e w' => (∃ g cap, e = .returned (.slice (some ⟨g, 0, none⟩) n cap) ∧ n ≤ cap ∧ Rw w' (some ⟨g, 0, none⟩) (tn l k)) ∧ Below w.heap.size w w' := by
  have hU := hr.1
  have hS := Lib.hid hr.src
  go_enter Try.func21, Try.ntmps21
  go_wp2_with (at_builtin; refine append_bytes rfl _ _ rfl w.heap.size (.slice none 0 0) 0 [] rfl (World.ownsRow_nil _ _ _ _) (some ⟨b, off, none⟩) n c l rfl hl hS.out (by omega) (Nat.le_refl _) ?_)
  intro v1 w1 hown hb
  obtain ⟨g, cap, rfl, hg, hnc⟩ := own_shape hown (by omega)
  have hin : k / 8 < n := by omega
  have hcell : w1.cell? ⟨g, k / 8, none⟩ = some (.int .u8 (l.getD (k / 8) 0)) := by
    rw [hown.cellAt (k / 8) (by omega), List.getElem?_map]
    simp [hl, hin]
  have hf := hown.frozenAt (k / 8)
  have hst := hown.stored (k / 8) (.int .u8 ((l.getD (k / 8) 0).toNat ^^^ 2 ^ (k % 8) : Nat))
  have hB : U8 (l.getD (k / 8) 0) := by rw [List.getD_eq_getElem?_getD, List.getElem?_eq_getElem (by omega)]; exact hU _ (List.getElem_mem (by omega))
  have e0 : (l.map (Value.int .u8)).set (k / 8) (.int .u8 ((l.getD (k / 8) 0).toNat ^^^ 2 ^ (k % 8) : Nat)) = (tn l k).map (Value.int .u8) := by
    unfold tn; rw [List.map_set]
  rw [e0] at hst
  have HST := Lib.hid hst.1
  have HBB := Lib.hid hb
  generalize l.getD (k / 8) 0 = B at hcell hB HST
  have hx : bits .xor .u8 B (2 ^ (k % 8) % 256) = ((B.toNat ^^^ 2 ^ (k % 8) : Nat) : Int) := by
    obtain ⟨h0, h1⟩ := hB
    have hp : 2 ^ (k % 8) < 256 := (Nat.pow_lt_pow_iff_right (by decide)).2 (by omega : k % 8 < 8)
    obtain ⟨M, rfl⟩ : ∃ M : Nat, B = M := ⟨B.toNat, by omega⟩
    have hp2 : (2 : Int) ^ (k % 8) = ((2 ^ (k % 8) : Nat) : Int) := by simp
    rw [hp2]
    generalize 2 ^ (k % 8) = p at hp ⊢
    rw [show ((p : Int) % 256) = (p : Int) by omega, u8_xor_nat _ _ (by omega) hp, Int.toNat_natCast]
  have HX := Lib.hid hx
  clear hst e0 hx hB hown hb
  go_wp2
  rw [HX.out]
  go_ret
  obtain ⟨A, cap2, he, hR, -, hq⟩ := Rw.of_own HST.out (tn_U8 _ _ hU)
  injection he with e1 e2 e3
  subst e1 e3
  exact ⟨⟨g, _, rfl, hnc, hR⟩, Below.setCell HBB.out hg _⟩
end Go.Proofs.Ytdcpbbfaakddaaa
