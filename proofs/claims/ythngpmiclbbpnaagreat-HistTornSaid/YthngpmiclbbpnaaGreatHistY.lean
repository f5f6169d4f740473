/-
  Operations' bytes read: numbers, and bytes with how many they are ahead. Nothing of one statement alone stands here.
-/
import Derived.Test.YthngpmiclbbpnaaGreatHistX
namespace Go.Proofs.YthngpmiclbbpnaaGreat
open Go.RowKit Crcm Tagm Go.ChangeShapes

set_option maxRecDepth 100000 in
set_option maxHeartbeats 1000000 in
theorem hnum_yes {w : World} {R : Nat} {l : List Int} (h : Rd w R l) (n : Nat) (h8 : n ≤ 8) (hn : n ≤ l.length) :
    Calls Tryz.prog 55 #[.pointer (some ⟨R, 0, none⟩), .int .i64 n] w fun e w' => e = .returned (.int .u64 (nu (l.take n))) ∧ Rd w' R (l.drop n) ∧ Ko R w w' := by
  have HT := Lib.hid (take_yes h n hn)
  have hU := h.len.2
  have hL : (l.take n).length = n := by rw [List.length_take]; omega
  have HL := Lib.hid hL
  have HU : Hid (∀ x ∈ l.take n, U8 x) := Lib.hid (fun x hx => hU x (List.mem_of_mem_take hx))
  obtain ⟨t, ht⟩ : ∃ t, l.take n = t := ⟨_, rfl⟩
  rw [ht] at HT HL HU ⊢
  clear h hn hU hL ht
  go_enter Tryz.func55, Tryz.ntmps55
  go_wp2_with fail
  refine HT.out.mono ?_
  rintro e w1 ⟨⟨a, c, rfl, hc, hr⟩, hd, hk⟩
  have HR := Lib.hid hr.1.2.2
  have HD := Lib.hid hd
  have HK := Lib.hid hk
  clear hr hd hk hc HT
  go_wp2_with fail
  go_loop [5, 12] (fun t' i => ∃ k : Nat, ∃ m : Int, k ≤ n ∧ i = .int .i64 k ∧ t' = .int .u64 m ∧ Hid (m = nu (t.take k))) (fun _ i => n - (intOf i).toNat)
  case atStart => exact ⟨0, 0, by omega, rfl, rfl, Lib.hid rfl⟩
  case round =>
    obtain ⟨k, m, hk, rfl, rfl, hv⟩ := hrel
    by_cases hlt : k < n
    · have htl : k < t.length := by rw [HL.out]; exact hlt
      rcases HR.out with h0 | ⟨b, off, rfl, hc⟩
      · rw [h0] at htl; simp at htl
      have hcell := hc k htl
      rw [show t.getD k 0 = t[k] by rw [List.getD_eq_getElem?_getD, List.getElem?_eq_getElem htl]; rfl] at hcell
      have hb8 : U8 t[k] := U8.get HU.out htl
      have HB := Lib.hid hb8
      have HT2 := Lib.hid (take_s htl)
      have hbd := Lib.hid (nu_bd (t.take k) fun b hb => HU.out b (List.mem_of_mem_take hb))
      obtain ⟨b0, b1⟩ := hb8
      have h8k : k < 8 := by omega
      have kl : (k : Int) < (n : Int) := by omega
      have k0 : (0 : Int) ≤ (k : Int) := by omega
      generalize t[k] = y at hcell HB HT2 b0 b1
      clear hc htl
      go_wp2
      go_round
      case rel =>
        refine ⟨k + 1, _, by omega, by go_num, rfl, Lib.hid ?_⟩
        have hb := hbd.out
        rw [List.length_take, Nat.min_eq_left (by have := HL.out; omega), ← hv.out] at hb
        rw [HT2.out, nu_snoc, List.length_take, Nat.min_eq_left (by have := HL.out; omega), ← hv.out, ← or_low m y k hb HB.out h8k]
      case measure => simp [intOf]; omega
    · have kl : ¬ (k : Int) < (n : Int) := by omega
      go_wp2
      go_ret
      exact ⟨ret_u64 (by rw [hv.out, List.take_of_length_le (by have := HL.out; omega)]), HD.out, HK.out⟩
set_option maxRecDepth 100000 in
set_option maxHeartbeats 1000000 in
theorem hnum_no {w : World} {R : Nat} {l : List Int} (h : Rd w R l) (n : Nat) (hn : ¬ n ≤ l.length) :
    Calls Tryz.prog 55 #[.pointer (some ⟨R, 0, none⟩), .int .i64 n] w fun e w' => e = pE ∧ Ko R w w' := by
  have HT := Lib.hid (take_no h n hn)
  clear h hn
  go_enter Tryz.func55, Tryz.ntmps55
  go_wp2_with fail
  refine HT.out.mono ?_
  rintro e w1 ⟨rfl, hk⟩
  exact ⟨rfl, rfl, hk⟩

theorem nu_small {l : List Int} (h : ∀ x ∈ l, U8 x) {n : Nat} (hn : n ≤ 2) : 0 ≤ nu (l.take n) ∧ nu (l.take n) < 65536 := by
  have h1 := nu_bd (l.take n) (fun x hx => h x (List.mem_of_mem_take hx))
  have h2 : (l.take n).length ≤ 2 := by rw [List.length_take]; omega
  refine ⟨h1.1, ?_⟩
  have h3 : (l.take n).length = 0 ∨ (l.take n).length = 1 ∨ (l.take n).length = 2 := by omega
  rcases h3 with h3 | h3 | h3 <;> rw [h3] at h1 <;> (have := h1.2; simp at this; omega)

end Go.Proofs.YthngpmiclbbpnaaGreat
