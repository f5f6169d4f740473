/-
  The statement's own calls: that a sum goes on from any cut.
-/
import Derived.Test.YtgadiloflepclaaCrcLawA
import Derived.Test.YtgadiloflepclaaLater
namespace Go.Proofs.Ytgadiloflepclaa
open Go.RowKit Crcm Go.ChangeShapes

/-- a raw number as one from 0 to n-1 -/
def am (k n : Int) : Int := if n < 1 then 0 else k % n
theorem am_lo (k n : Int) : 0 ≤ am k n := by unfold am; split <;> first | omega | exact Int.emod_nonneg _ (by omega)
theorem am_hi (k n : Int) (h : 1 ≤ n) : am k n < n := by unfold am; rw [if_neg (by omega)]; exact Int.emod_lt_of_pos _ (by omega)
theorem ret_i64 {a b : Int} (h : a = b) : Ending.returned (.int .i64 a) = .returned (.int .i64 b) := by rw [h]
theorem am_tmod_pos {k n : Int} (hn : 1 ≤ n) (h : 0 ≤ k.tmod n) : k.tmod n = am k n := by
  unfold am
  rw [if_neg (by omega)]
  have h1 := Int.tmod_add_mul_tdiv k n
  have h2 := Int.tmod_lt_of_pos k (by omega : 0 < n)
  have : (k.tmod n + n * k.tdiv n) % n = k.tmod n % n := by rw [Int.add_mul_emod_self_left]
  rw [h1] at this
  rw [this, Int.emod_eq_of_lt h h2]
theorem am_tmod_neg {k n : Int} (hn : 1 ≤ n) (h : k.tmod n < 0) : k.tmod n + n = am k n := by
  unfold am
  rw [if_neg (by omega)]
  have h1 := Int.tmod_add_mul_tdiv k n
  have h2 : -n < k.tmod n := by
    have := Int.lt_tmod_of_pos k (by omega : 0 < n)
    omega
  have : (k.tmod n + n * k.tdiv n) % n = (k.tmod n + n) % n := by rw [Int.add_mul_emod_self_left, Int.add_emod_right]
  rw [h1] at this
  rw [this, Int.emod_eq_of_lt (by omega) (by omega)]

set_option maxHeartbeats 400000 in
theorem among_any (k n : Int) (w : World) (_hk0 : -9223372036854775808 ≤ k) (_hk1 : k ≤ 9223372036854775807) (hn1 : n ≤ 9223372036854775807) :
    Calls Try.prog 26 #[.int .i64 k, .int .i64 n] w fun e w' => e = .returned (.int .i64 (am k n)) ∧ w = w' := by
  by_cases hn : n < 1
  · go_enter Try.func26, Try.ntmps26
    go_wp2
    go_ret
    exact ⟨ret_i64 (by unfold am; rw [if_pos hn]), rfl⟩
  · go_enter Try.func26, Try.ntmps26
    go_wp2
    · go_ret
      have ht : k.tmod n < 0 := by assumption
      have e := am_tmod_neg (by omega) ht
      have e1 := am_lo k n
      have e2 := am_hi k n (by omega)
      exact ⟨ret_i64 (by rw [e, IntWalk.wrap64_in _ ⟨by omega, by omega⟩]), rfl⟩
    · go_ret
      have ht : 0 ≤ k.tmod n := by assumption
      exact ⟨ret_i64 (am_tmod_pos (by omega) ht), rfl⟩

/-- the call's answer as a place among n -/
theorem among_nat (k : Int) (n : Nat) (hk0 : -9223372036854775808 ≤ k) (hk1 : k ≤ 9223372036854775807) (hn0 : 1 ≤ n) (hn1 : n ≤ 9223372036854775807) :
    ∃ j : Nat, j < n ∧ am k n = j ∧ ∀ w, Calls Try.prog 26 #[.int .i64 k, .int .i64 n] w fun e w' => e = .returned (.int .i64 (j : Int)) ∧ w = w' := by
  have h0 := am_lo k n
  have h1 := am_hi k n (by omega)
  refine ⟨(am k n).toNat, by omega, by omega, fun w => ?_⟩
  have := among_any k n w hk0 hk1 (by omega)
  rw [Int.toNat_of_nonneg h0]
  exact this

theorem Rw.take {w : World} {a : Option Addr} {l : List Int} (h : Rw w a l) (j : Nat) : Rw w a (l.take j) := by
  obtain ⟨h1, h2, h3⟩ := h
  refine ⟨fun n hn => h1 n (List.mem_of_mem_take hn), by rw [List.length_take]; omega, ?_⟩
  rcases h3 with rfl | ⟨b, off, rfl, h3⟩
  · left; simp
  · refine .inr ⟨b, off, rfl, fun i hi => ?_⟩
    rw [List.length_take] at hi
    rw [h3 i (by omega)]
    have hi' : i < j := by omega
    simp [List.getD_eq_getElem?_getD, hi']

theorem Rw.drop {w : World} {a : Option Addr} {l : List Int} (h : Rw w a l) (j : Nat) {a' : Option Addr} (ha : ∀ b off, a = some ⟨b, off, none⟩ → j < l.length → a' = some ⟨b, off + j, none⟩) : Rw w a' (l.drop j) := by
  obtain ⟨h1, h2, h3⟩ := h
  refine ⟨fun n hn => h1 n (List.mem_of_mem_drop hn), by rw [List.length_drop]; omega, ?_⟩
  rcases h3 with rfl | ⟨b, off, rfl, h3⟩
  · left; simp
  · by_cases hj : j < l.length
    · refine .inr ⟨b, off + j, ha b off rfl hj, fun i hi => ?_⟩
      rw [List.length_drop] at hi
      rw [Nat.add_assoc, h3 (j + i) (by omega)]
      simp [List.getD_eq_getElem?_getD]
    · left; exact List.drop_of_length_le (by omega)

theorem Rw.later {w : World} {a : Option Addr} {zs : List Int} (h : Rw w a zs) (n : Later w) : Rw n.to a zs := h.below n.bel
theorem sum_later {w : World} {a : Option Addr} {cap len : Nat} {zs : List Int} (hr : Rw w a zs) (hl : zs.length = len) (n : Later w) :
    Calls Try.prog 19 #[.slice a len cap] n.to fun e w'' => e = .returned (.int .u32 (mo 0 zs)) ∧ ∃ m : Later w, w'' = m.to := by
  subst hl
  exact later_same (sum_any _ _ _ _ (hr.later n))
theorem more_later {w : World} {s t : Int} {a : Option Addr} {cap len : Nat} {zs : List Int} (hs : U32 s) (hr : Rw w a zs) (hl : zs.length = len) (ht : mo s zs = t) (n : Later w) :
    Calls Try.prog 21 #[.int .u32 s, .slice a len cap] n.to fun e w'' => e = .returned (.int .u32 t) ∧ ∃ m : Later w, w'' = m.to := by
  subst hl
  subst ht
  exact later_same (more_any _ _ _ _ _ hs (hr.later n))
theorem known_later {w : World} (n : Later w) : Calls Try.prog 17 #[] n.to fun e w'' => e = .returned (.bool true) ∧ ∃ m : Later w, w'' = m.to := later_below (known_any _)

theorem mo_cut (s : Int) (l m : List Int) : mo (mo s l) m = mo s (l ++ m) := by
  unfold mo
  rw [V_N, BitVec.not_not, List.map_append, F_append]

set_option maxHeartbeats 400000 in
theorem crcCuts_walk (a0 : Option Addr) (len0 cap0 : Nat) (z0 : List Int) (a1 : Int) (w : World) (w0 : Row8 w a0 len0 cap0 z0) (w1 : (Lit.int .i64 a1).wf = true) :
    Calls Try.prog 8 #[.slice a0 len0 cap0, .int .i64 a1] w fun e w' => e = .returned (.bool true) ∧ Below w.heap.size w w' := by
  obtain ⟨l, rfl, hcap, hr, -⟩ := w0.rw
  obtain ⟨b0, b1⟩ := bounds_i64 w1
  clear w0 w1
  by_cases hl : 2000 < l.length
  · go_enter Try.func8, Try.ntmps8
    go_wp2_with (first | (go_at_call 18; refine (long_yes _ _ _ _ hl).mono ?_; rintro e w' ⟨rfl, rfl⟩) | (go_at_call 17; refine (known_any _).mono ?_; rintro e w' ⟨rfl, hb⟩))
    go_ret
    exact ⟨rfl, hb⟩
  · obtain ⟨j, hj, -, hcon⟩ := among_nat a1 (l.length + 1) b0 b1 (by omega) (by omega)
    have HC := Lib.hid hcon
    clear hcon
    go_enter Try.func8, Try.ntmps8
    go_wp2_with (first | (go_at_call 18; refine (long_no _ _ _ _ (by omega)).mono ?_; rintro e w' ⟨rfl, rfl⟩) | (go_at_call 26; refine (HC.out _).mono ?_; rintro e w' ⟨rfl, rfl⟩))
    have hT := mo_cut 0 (l.take j) (l.drop j)
    rw [List.take_append_drop] at hT
    have HS := Lib.hid (fun n => sum_later (cap := cap0) hr rfl n)
    have HT := Lib.hid (fun n => sum_later (cap := cap0) (hr.take j) (len := j) (by rw [List.length_take]; omega) n)
    have HN := Lib.hid (fun n => more_later (w := w) (s := mo 0 l) (t := mo 0 l) (a := none) (cap := 0) (len := 0) (zs := []) (U32_mo _ _) ⟨by simp, by simp, .inl rfl⟩ rfl (by rw [mo_cut, List.append_nil]) n)
    have hd : Rw w (if cap0 = j then a0 else Option.map (fun x => x.add j) a0) (l.drop j) := hr.drop j (by
      intro b off he hj'
      rw [if_neg (by omega), he]
      simp [Addr.add])
    have HM := Lib.hid (fun n => more_later (cap := cap0 - j) (len := l.length - j) (U32_mo 0 (l.take j)) hd (by rw [List.length_drop]) hT n)
    clear hT hd
    refine wp_region_later (by kernel_rfl) (by kernel_rfl) ?_
    repeat (go_big_quiet_step (with_reducible first | exact HS.out _ | exact HT.out _ | exact HN.out _ | exact HM.out _ | exact known_later _))
    refine wpQuiet_nil ?_
    rintro _ ⟨n, rfl⟩
    go_wp2
    all_goals
      go_ret
      exact ⟨rfl, n.bel⟩

end Go.Proofs.Ytgadiloflepclaa
