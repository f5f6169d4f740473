/-
  The document's places, bits, sums and codes.
-/
import Derived.Test.YtdcpbbfaakddaaaEccMend
import Derived.Test.YtdcpbbfaakddaaaInts
namespace Go.Proofs.Ytdcpbbfaakddaaa
open Go.RowKit Crcm Eccm

set_option maxRecDepth 100000 in
theorem power_any (n : Nat) (w : World) (h1 : 1 ≤ n) (hn : n ≤ 1000000) :
    Calls Try.prog 30 #[.int .i64 n] w fun e w' => e = .returned (.bool (pw n)) ∧ w = w' := by
  go_enter Try.func30, Try.ntmps30
  go_wp2
  go_loop [0] (fun x => ∃ m : Nat, 1 ≤ m ∧ m ≤ n ∧ x = .int .i64 m ∧ Hid (pw m = pw n)) (fun x => (intOf x).toNat)
  case atStart => exact ⟨n, h1, Nat.le_refl _, rfl, Lib.hid rfl⟩
  case round =>
    obtain ⟨m, hm1, hmn, rfl, hp⟩ := hrel
    rcases (by omega : m = 1 ∨ 1 < m) with rfl | h2
    · go_wp2
      go_ret
      exact ⟨by rw [← hp.out]; rfl, rfl⟩
    · rcases Nat.mod_two_eq_zero_or_one m with he | ho
      · have t : ((m : Int) % 2 == 0) = true := by simp; omega
        have HE := Lib.hid he
        clear he
        go_wp2
        go_round
        case rel => exact ⟨m / 2, by omega, by omega, by go_num, Lib.hid (by rw [← pw_even HE.out]; exact hp.out)⟩
        case measure => simp [intOf]; omega
      · have t : ((m : Int) % 2 == 0) = false := by simp; omega
        have t2 : ((m : Int) == 1) = false := by simp; omega
        have HP : Hid (pw n = false) := Lib.hid (by rw [← hp.out]; exact pw_odd h2 ho)
        clear ho
        go_wp2
        go_ret
        exact ⟨by rw [HP.out]; rfl, rfl⟩

/-- the places in order -/
def pls (k : Nat) : List Int := (List.range k).map (fun i => ((pl i : Nat) : Int))
theorem pls_length (k : Nat) : (pls k).length = k := by simp [pls]
theorem pls_succ (k : Nat) : pls (k + 1) = pls k ++ [((pl k : Nat) : Int)] := by unfold pls; rw [List.range_succ, List.map_append]; rfl
theorem pls_get {k j : Nat} (h : j < k) : (pls k).getD j 0 = ((pl j : Nat) : Int) := by
  rw [List.getD_eq_getElem?_getD]; simp [pls, h]
theorem pl_small' {k : Nat} (h : k ≤ 32768) : pl k < 65540 := by
  cases k with
  | zero => decide
  | succ k =>
    have := pl_small (k := k) (by omega)
    show nx (pl k + 1) < _
    unfold nx; split <;> omega
theorem pls_I64 {k : Nat} (h : k ≤ 32768) : ∀ m ∈ pls k, I64 m := by
  intro m hm
  unfold pls at hm
  obtain ⟨i, hi, rfl⟩ := List.mem_map.1 hm
  have := pl_small' (k := i) (by have := List.mem_range.1 hi; omega)
  unfold I64; omega
theorem ri_one (w : World) (x : Int) (hx : I64 x) : Ri (w.alloc (.cells #[.int .i64 x] 3)) (some ⟨w.heap.size, 0, none⟩) [x] := by
  refine ⟨fun n hn => by simp at hn; subst hn; exact hx, by simp [maxLen], .inr ⟨_, 0, rfl, fun j hj => ?_⟩⟩
  simp at hj; subst hj
  exact cell_one_new _ _ _ 0 _ rfl

set_option maxRecDepth 100000 in
set_option maxHeartbeats 1000000 in
theorem places_any (n : Nat) (w : World) (hn : n ≤ 4096) :
    Calls Try.prog 31 #[.int .i64 n] w fun e w' => ∃ a cap, e = .returned (.slice a (8 * n : Nat) cap) ∧ Ri w' a (pls (8 * n)) ∧ Below w.heap.size w w' := by
  go_enter Try.func31, Try.ntmps31
  go_wp2_with fail
  go_loopw [3, 4] (fun v i wr => ∃ k p : Nat, ∃ A c, k ≤ 8 * n ∧ 3 ≤ p ∧ p ≤ 65540 ∧ v = .slice A k c ∧ i = .int .i64 p ∧ Hid (nx p = pl k) ∧ Hid (wr.ownsRow w.heap.size 3 1 (.slice A k c) k ((pls k).map (Value.int .i64))) ∧ Hid (Below w.heap.size w wr)) (fun _ i _ => 70000 - (intOf i).toNat)
  case atStart => exact ⟨0, 3, none, 0, by omega, by omega, by omega, rfl, rfl, Lib.hid rfl, Lib.hid (World.ownsRow_nil _ _ _ _), Lib.hid (Below.refl _ _)⟩
  case round =>
    obtain ⟨k, p, A, c, hk, hp3, hp, rfl, rfl, hx, hO, hB⟩ := hrel
    by_cases hlt : k < 8 * n
    · have HP := Lib.hid (power_any p wr (by omega) (by omega))
      have hpl := pl_small' (k := k) (by omega)
      rcases hpw : pw p with _ | _
      · rw [hpw] at HP
        have hpk : p = pl k := by rw [← hx.out, nx_no hpw]
        have HX : Hid (nx (p + 1) = pl (k + 1)) := Lib.hid (by rw [hpk]; rfl)
        have HPK := Lib.hid hpk
        have hp2 : p + 1 ≤ 65540 := by have := pl_small (k := k) (by omega); omega
        have hx64 : I64 (p : Int) := by unfold I64; omega
        have hs := hB.out.size
        clear hpk hpl
        go_wp2_with fail
        refine HP.out.mono ?_
        rintro e w2 ⟨rfl, rfl⟩
        go_wp2_with (at_builtin; refine append_ints rfl _ _ rfl w.heap.size _ k _ rfl (hO.out.alloc _) (some ⟨wr.heap.size, 0, none⟩) 1 1 [(p : Int)] rfl rfl (ri_one wr _ hx64) (fun e => by cases e) (by omega) (by simp; omega) ?_; intro v' w' hown' hb' _ _)
        obtain ⟨A2, c2, rfl, -, -, -⟩ := Ri.of_own hown' (by
          rw [HPK.out, ← pls_succ]; exact pls_I64 (by omega))
        have HO2 := Lib.hid hown'
        have HB2 := Lib.hid ((hB.out.alloc hs _).trans hb')
        clear hown' hb' hs hx64
        go_wp2
        go_roundw
        case rel => exact ⟨k + 1, p + 1, A2, c2, by omega, by omega, by omega, rfl, by go_num, HX, by rw [pls_succ, ← HPK.out]; exact HO2, HB2⟩
        case measure => simp [intOf]; omega
      · rw [hpw] at HP
        have HX : Hid (nx (p + 1) = pl k) := Lib.hid (by
          have h := hx.out
          rw [nx_yes hpw] at h
          rw [nx_no (pw_next (by omega) hpw), h])
        have hpl2 : p + 1 ≤ 65540 := by
          have h := hx.out
          rw [nx_yes hpw] at h
          omega
        clear hpl
        go_wp2_with fail
        refine HP.out.mono ?_
        rintro e w2 ⟨rfl, rfl⟩
        go_wp2
        go_roundw
        case rel => exact ⟨k, p + 1, A, c, by omega, by omega, by omega, rfl, by go_num, HX, hO, hB⟩
        case measure => simp [intOf]; omega
    · have hkn : k = 8 * n := by omega
      subst hkn
      go_wp2
      go_ret
      obtain ⟨A2, c2, he, hR, -, -⟩ := Ri.of_own hO.out (pls_I64 (by omega))
      injection he with e1 e2 e3
      subst e1 e3
      exact ⟨_, _, rfl, hR, hB.out⟩

set_option maxRecDepth 100000 in
set_option maxHeartbeats 1000000 in
theorem bit_any (b off n c k : Nat) (l : List Int) (w : World) (hr : Rw w (some ⟨b, off, none⟩) l) (hl : l.length = n) (hk : k < 8 * n) (hn : n ≤ 4096) :
    Calls Try.prog 39 #[.slice (some ⟨b, off, none⟩) n c, .int .i64 k] w fun e w' => e = .returned (.bool (bt l k)) ∧ w = w' := by
  have hin : k / 8 < l.length := by omega
  obtain ⟨h1, -, h3⟩ := hr
  rcases h3 with rfl | ⟨b', off', he, h3⟩
  · simp at hin
  · injection he with he
    injection he with he1 he2
    subst he1 he2
    have hc := h3 (k / 8) hin
    have hB : U8 (l.getD (k / 8) 0) := by rw [List.getD_eq_getElem?_getD, List.getElem?_eq_getElem hin]; exact h1 _ (List.getElem_mem hin)
    have hbt : bt l k = ((l.getD (k / 8) 0).toNat.testBit (k % 8)) := rfl
    rw [hbt]
    generalize l.getD (k / 8) 0 = B at hc hB
    have ht : ((B / 2 ^ (k % 8)).tmod 2 == 1) = B.toNat.testBit (k % 8) := by
      obtain ⟨h0, h1⟩ := hB
      obtain ⟨M, rfl⟩ : ∃ M : Nat, B = M := ⟨B.toNat, by omega⟩
      have e : ((M : Int) / 2 ^ (k % 8)) = ((M / 2 ^ (k % 8) : Nat) : Int) := by rw [Int.natCast_ediv]; simp
      rw [e, Int.toNat_natCast, Nat.testBit_eq_decide_div_mod_eq]
      generalize M / 2 ^ (k % 8) = q
      rw [Int.tmod_eq_emod_of_nonneg (by omega)]
      rcases Nat.mod_two_eq_zero_or_one q with h | h
      · rw [h]; have : ((q : Int) % 2) = 0 := by omega
        rw [this]; rfl
      · rw [h]; have : ((q : Int) % 2) = 1 := by omega
        rw [this]; rfl
    have HT := Lib.hid ht
    obtain ⟨hB0, hB1⟩ := hB
    clear h3 h1 hin hbt ht
    go_enter Try.func39, Try.ntmps39
    go_wp2
    go_ret
    exact ⟨by rw [← HT.out]; rfl, rfl⟩

theorem on_step (m : Nat) (h : m < 131072) : on m 17 = m % 2 + on (m / 2) 17 := by
  rw [← on_more (n := 17) (m := 18) (by omega) (by decide), show (18 : Nat) = 17 + 1 from rfl, on_half]

set_option maxRecDepth 100000 in
theorem ones_any (x : Nat) (w : World) (hx : x < 131072) :
    Calls Try.prog 26 #[.int .i64 x] w fun e w' => e = .returned (.int .i64 (on x 17 : Nat)) ∧ w = w' := by
  have hx1 : x ≤ 131071 := by omega
  have hon := on_le x 17
  go_enter Try.func26, Try.ntmps26
  go_wp2
  go_loop [0, 3] (fun x' a => ∃ m A : Nat, Hid (m ≤ 131071) ∧ A ≤ 17 ∧ x' = .int .i64 m ∧ a = .int .i64 A ∧ Hid (A + on m 17 = on x 17)) (fun x' _ => (intOf x').toNat)
  case atStart => exact ⟨x, 0, Lib.hid hx1, by omega, rfl, rfl, Lib.hid (Nat.zero_add _)⟩
  case round =>
    obtain ⟨m, A, hm, hA, rfl, rfl, hv⟩ := hrel
    rcases Nat.eq_zero_or_pos m with rfl | h0
    · go_wp2
      go_ret
      exact ⟨by have := hv.out; rw [on_zero] at this; rw [← this]; rfl, rfl⟩
    · have hst := on_step m (by have := hm.out; omega)
      have hA2 : A + m % 2 ≤ 17 := by have := hv.out; omega
      have HV : Hid (A + m % 2 + on (m / 2) 17 = on x 17) := Lib.hid (by have := hv.out; omega)
      have HM : Hid (m / 2 ≤ 131071) := Lib.hid (by have := hm.out; omega)
      have hmm : (m : Int) ≤ 4611686018427387903 := by have := hm.out; omega
      clear hst
      go_wp2
      go_round
      case rel => exact ⟨m / 2, A + m % 2, HM, hA2, by go_num, by go_num, HV⟩
      case measure => simp [intOf]; omega
end Go.Proofs.Ytdcpbbfaakddaaa
