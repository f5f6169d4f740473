/-
  The fixed calls of ecc's laws, and how many bytes these look at.
-/
import Derived.Test.YtdcpbbfaakddaaaEccRefM
namespace Go.Proofs.Ytdcpbbfaakddaaa
open Go.RowKit Crcm Eccm

theorem one_rw (w : World) (x : Int) (hx : U8 x) : Rw (w.alloc (.cells #[.int .u8 x] 5)) (some ⟨w.heap.size, 0, none⟩) [x] := by
  refine ⟨fun n hn => by rw [List.mem_singleton.1 hn]; exact hx, by simp [maxLen], .inr ⟨_, 0, rfl, fun j hj => ?_⟩⟩
  simp at hj
  subst hj
  exact cell_one_new _ _ _ 0 _ rfl
theorem b1 : U8 1 := ⟨by decide, by decide⟩
theorem b0 : U8 0 := ⟨by decide, by decide⟩
theorem k_cb : cb [1] = 65539 := by decide +kernel
theorem k_a : mx [0] 65539 = [1] ∧ mk [0] 65539 = 0 ∧ me [0] 65539 = 0 := by decide +kernel
theorem k_b : mx [1] 65537 = [1] ∧ mk [1] 65537 = -2 ∧ me [1] 65537 = 0 := by decide +kernel

theorem kcode (w : World) : Calls Try.prog 11 #[.slice (some ⟨w.heap.size, 0, none⟩) 1 1] (w.alloc (.cells #[.int .u8 1] 5)) fun e w' => e = .returned (.tuple #[.int .u32 65539, .int .i64 0]) ∧ Below w.heap.size w w' := by
  refine (code_yes w.heap.size 0 1 1 [1] _ (one_rw w 1 b1) rfl (by decide) (by decide)).mono ?_
  rintro e w' ⟨rfl, hb⟩
  rw [k_cb]
  exact ⟨rfl, ((Below.refl _ _).alloc (Nat.le_refl _) _).trans (hb.mono (by simp))⟩
theorem kmend (w : World) (x : Int) (C : Nat) (r k e : Int) (hx : U8 x) (hc : C < 131072) (h : mx [x] C = [r] ∧ mk [x] C = k ∧ me [x] C = e) : Calls Try.prog 13 #[.slice (some ⟨w.heap.size, 0, none⟩) 1 1, .int .u32 C] (w.alloc (.cells #[.int .u8 x] 5)) fun e' w' => (∃ A cap, e' = .returned (.tuple #[.slice A 1 cap, .int .i64 k, .int .i64 e]) ∧ Rw w' A [r]) ∧ Below w.heap.size w w' := by
  obtain ⟨h1, h2, h3⟩ := h
  refine (mend_yes w.heap.size 0 1 1 C [x] _ (one_rw w x hx) rfl (by decide) (by decide) hc).mono ?_
  rintro e' w' ⟨⟨A, m, cap, rfl, hm, -, hr⟩, hb⟩
  rw [h1] at hm hr
  rw [h2, h3]
  simp at hm
  subst hm
  exact ⟨⟨A, cap, rfl, hr⟩, ((Below.refl _ _).alloc (Nat.le_refl _) _).trans (hb.mono (by simp))⟩

set_option maxRecDepth 100000 in
set_option maxHeartbeats 1000000 in
theorem known_any (w : World) :
    Calls Try.prog 10 #[] w fun e w' => e = .returned (.bool true) ∧ Below w.heap.size w w' := by
  go_enter Try.func10, Try.ntmps10
  go_wp2_with fail
  refine (kcode w).mono ?_
  rintro e w1 ⟨rfl, hb1⟩
  go_wp2_with fail
  refine (kmend w1 0 65539 1 0 0 b0 (by decide) k_a).mono ?_
  rintro e w2 ⟨⟨A, c, rfl, hA⟩, hb2⟩
  have HB2 := Lib.hid (bon hb1 hb2)
  have HA := Lib.hid hA
  clear hb1 hb2 hA
  go_wp2_with fail
  refine (kmend w2 1 65537 1 (-2) 0 b1 (by decide) k_b).mono ?_
  rintro e w3 ⟨⟨B, d, rfl, hB⟩, hb3⟩
  have HB3 := Lib.hid (bon HB2.out hb3)
  have HB := Lib.hid hB
  have HA3 := Lib.hid (HA.out.below hb3)
  clear hb3 hB HA HB2
  go_wp2_with fail
  refine (code_no none 0 0 w3 (by decide) (by omega)).mono ?_
  rintro e w4 ⟨rfl, rfl⟩
  go_wp2_with fail
  have hx1 := (Below.refl w3.heap.size w3).alloc (Nat.le_refl _) (.cells #[.int .u8 1] 5)
  have HS := same_any A (some ⟨w3.heap.size, 0, none⟩) c 1 1 1 [1] [1] _ (HA3.out.below hx1) (one_rw w3 1 b1) rfl rfl
  rw [decide_eq_true rfl] at HS
  refine HS.mono ?_
  rintro e w5 ⟨rfl, rfl⟩
  have HBB := Lib.hid (HB.out.below hx1)
  have HB5 := Lib.hid (bon HB3.out hx1)
  clear HS hx1 HB HB3
  obtain ⟨W, hW⟩ : ∃ W, w3.alloc (.cells #[.int .u8 1] 5) = W := ⟨_, rfl⟩
  rw [hW] at HBB HB5 ⊢
  clear hW
  go_wp2_with fail
  have hx2 := (Below.refl W.heap.size W).alloc (Nat.le_refl _) (.cells #[.int .u8 1] 5)
  have HS2 := same_any B (some ⟨W.heap.size, 0, none⟩) d 1 1 1 [1] [1] _ (HBB.out.below hx2) (one_rw W 1 b1) rfl rfl
  rw [decide_eq_true rfl] at HS2
  refine HS2.mono ?_
  rintro e w6 ⟨rfl, rfl⟩
  have HB6 := Lib.hid (bon HB5.out hx2)
  clear HS2 hx2
  go_wp2
  go_ret
  exact ⟨rfl, HB6.out⟩

set_option maxRecDepth 100000 in
theorem long_any (a : Option Addr) (n c : Nat) (w : World) (hn : n ≤ maxLen) :
    Calls Try.prog 9 #[.slice a n c] w fun e w' => e = .returned (.bool (decide ((600 < n ∧ n ≤ 4096) ∨ 5000 < n))) ∧ w = w' := by
  unfold maxLen at hn
  rcases (by omega : n ≤ 600 ∨ (600 < n ∧ n ≤ 4096) ∨ (4096 < n ∧ n ≤ 5000) ∨ 5000 < n) with h | ⟨h, h2⟩ | ⟨h, h2⟩ | h
  · rw [decide_eq_false (by omega)]
    have f1 : decide ((5000 : Int) < (n : Int)) = false := by simp; omega
    go_enter Try.func9, Try.ntmps9
    go_wp2
    go_ret
    exact ⟨rfl, rfl⟩
  · rw [decide_eq_true (by omega)]
    have f1 : decide ((n : Int) ≤ 4096) = true := by simp; omega
    go_enter Try.func9, Try.ntmps9
    go_wp2
    go_ret
    exact ⟨rfl, rfl⟩
  · rw [decide_eq_false (by omega)]
    have h3 : 600 < n := by omega
    have f1 : decide ((n : Int) ≤ 4096) = false := by simp; omega
    have f2 : decide ((5000 : Int) < (n : Int)) = false := by simp; omega
    go_enter Try.func9, Try.ntmps9
    go_wp2
    go_ret
    exact ⟨rfl, rfl⟩
  · rw [decide_eq_true (by omega)]
    have h3 : 600 < n := by omega
    have h4 : 4096 < n := by omega
    have f1 : decide ((n : Int) ≤ 4096) = false := by simp; omega
    have f2 : decide ((5000 : Int) < (n : Int)) = true := by simp; omega
    go_enter Try.func9, Try.ntmps9
    go_wp2
    go_ret
    exact ⟨rfl, rfl⟩
end Go.Proofs.Ytdcpbbfaakddaaa
