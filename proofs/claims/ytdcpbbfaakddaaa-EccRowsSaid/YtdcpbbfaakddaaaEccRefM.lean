/-
  The document's Mend.
-/
import Derived.Test.YtdcpbbfaakddaaaEccRefB
namespace Go.Proofs.Ytdcpbbfaakddaaa
open Go.RowKit Crcm Eccm

set_option maxRecDepth 100000 in
theorem rmend_no (a : Option Addr) (n c : Nat) (C : Int) (w : World) (hn : n ≤ maxLen) (h : ¬ (1 ≤ n ∧ n ≤ 4096) ∨ 131071 < C) :
    Calls Try.prog 14 #[.slice a n c, .int .u32 C] w fun e w' => e = .returned (.tuple #[.slice none 0 0, .int .i64 0, .int .i64 1]) ∧ w = w' := by
  unfold maxLen at hn
  rcases (by omega : n = 0 ∨ 4096 < n ∨ (1 ≤ n ∧ n ≤ 4096)) with rfl | h2 | ⟨h1, h2⟩
  · clear h
    go_enter Try.func14, Try.ntmps14
    go_wp2
    go_ret3
    exact ⟨rfl, rfl⟩
  · have h0 : 1 ≤ n := by omega
    clear h
    go_enter Try.func14, Try.ntmps14
    go_wp2
    go_ret3
    exact ⟨rfl, rfl⟩
  · have hc : 131071 < C := by rcases h with h | h; exact absurd ⟨h1, h2⟩ h; exact h
    have t : decide ((131071 : Int) < C) = true := by simpa using hc
    have hn2 : (n : Int) ≤ 4096 := by omega
    clear h hc hn
    go_enter Try.func14, Try.ntmps14
    go_wp2
    go_ret3
    exact ⟨rfl, rfl⟩

/-- no place ahead of k is s -/
def nf (s k : Nat) : Prop := ∀ j, j < k → pl j ≠ s
theorem nf_none {l : List Int} {c : Nat} (hq : qu (bt l) (8 * l.length) c = 1) (h0 : sy (bt l) (8 * l.length) c ≠ 0) (hp : pw (sy (bt l) (8 * l.length) c) = false) (h : nf (sy (bt l) (8 * l.length) c) (8 * l.length)) : mb l c = none := by
  unfold mb mn mr
  rw [if_neg (by omega), if_neg (by rw [hp]; simp; exact fun _ => h0), if_pos hq]
  rcases hf : fnd (8 * l.length) (sy (bt l) (8 * l.length) c) with _ | j
  · rfl
  · have := fnd_some hf; exact absurd this.2 (h j this.1)

set_option maxRecDepth 100000 in
set_option maxHeartbeats 1000000 in
theorem rmend_yes (b off n c C : Nat) (l : List Int) (w : World) (hr : Rw w (some ⟨b, off, none⟩) l) (hl : l.length = n) (h0 : 1 ≤ n) (hn : n ≤ 4096) (hnc : n ≤ c) (hc : C < 131072) :
    Calls Try.prog 14 #[.slice (some ⟨b, off, none⟩) n c, .int .u32 C] w fun e w' => (∃ A m cap, e = .returned (.tuple #[.slice A m cap, .int .i64 (mk l C), .int .i64 (me l C)]) ∧ (mx l C).length = m ∧ m ≤ cap ∧ Rw w' A (mx l C)) ∧ Below w.heap.size w w' := by
  have HS := Lib.hid (sum_any b off n c l w hr hl hn)
  have hx := sx_small (bt l) (8 * n) (by omega)
  have hcn := cn_le (bt l) (8 * n)
  have HO : Hid (∀ w', Calls Try.prog 26 #[.int .i64 C] w' fun e w'' => e = .returned (.int .i64 (on C 17 : Nat)) ∧ w' = w'') := Lib.hid fun w' => ones_any _ w' hc
  have hon := on_le C 17
  have hqu : (cn (bt l) (8 * n) + on C 17) % 2 = qu (bt l) (8 * n) C := rfl
  have hsy : sx (bt l) (8 * n) ^^^ (C % 65536) = sy (bt l) (8 * n) C := rfl
  have HX : Hid (bits .xor .i64 ((sx (bt l) (8 * n) : Nat) : Int) ((C : Int) % 65536) = ((sy (bt l) (8 * n) C : Nat) : Int)) := Lib.hid (by
    rw [show ((C : Int) % 65536) = ((C % 65536 : Nat) : Int) by omega, xor_i64 hx (by omega), hsy])
  have hsl : sy (bt l) (8 * n) C < 65536 := by rw [← hsy]; exact Nat.xor_lt_two_pow (n := 16) hx (by omega)
  generalize on C 17 = q at HO hon hqu
  have HM1 := fun h1 h2 => mx_low (mb_whole (l := l) (c := C) (by rw [hl]; exact h1) (by rw [hl]; exact h2)) (by decide)
  have HM2 := fun h1 h2 => mx_low (mb_hurt (l := l) (c := C) (by rw [hl]; exact h1) (by rw [hl]; exact h2)) (by decide)
  have HM3 := fun h1 h2 => mx_none (mb_even (l := l) (c := C) (by rw [hl]; exact h1) (by rw [hl]; exact h2))
  have HM4 := fun k h1 h2 => mb_odd (l := l) (c := C) (k := k) (by rw [hl]; exact h1) (by rw [hl]; exact h2)
  have HM5 := fun h1 h2 h3 h4 => mx_none (nf_none (l := l) (c := C) (by rw [hl]; exact h1) (by rw [hl]; exact h2) (by rw [hl]; exact h3) (by rw [hl]; exact h4))
  generalize sy (bt l) (8 * n) C = s at HX hsl HM1 HM2 HM3 HM4 HM5
  generalize qu (bt l) (8 * n) C = Q at hqu HM1 HM2 HM3 HM4 HM5
  generalize sx (bt l) (8 * n) = X at HS HX hx
  generalize cn (bt l) (8 * n) = Y at HS hcn hqu
  have t : decide ((131071 : Int) < (C : Int)) = false := by simp; omega
  have hX : X ≤ 65535 := by omega
  have hY : Y ≤ 32768 := by omega
  have hs : s ≤ 65535 := by omega
  have e1 := HX.out
  have HR := Lib.hid hr
  have hC9 : (C : Int) % 65536 ≤ 65535 := by omega
  have hsz : s = 0 ∨ 1 ≤ s := by omega
  have hC62 : (C : Int) ≤ 4611686018427387903 := by omega
  clear hsl hx hcn hc HX
  rcases Nat.mod_two_eq_zero_or_one (Y + q) with hQ | hQ
  · have eQ : ((Y : Int) + (q : Int)) % 2 = 0 := by omega
    rw [hQ] at hqu
    subst hqu
    rcases hsz with h0s | h1s
    · subst h0s
      obtain ⟨m1, m2, m3⟩ := HM1 rfl rfl
      rw [m1, m2, m3]
      clear HM1 HM2 HM3 HM4 HM5 m1 m2 m3 hQ
      go_enter Try.func14, Try.ntmps14
      go_wp2_with fail
      refine HS.out.mono ?_
      rintro e w2 ⟨rfl, hb⟩
      go_wp2_with fail
      refine (HO.out _).mono ?_
      rintro e w3 ⟨rfl, rfl⟩
      go_wp2
      go_ret3
      exact ⟨⟨_, n, c, rfl, hl, hnc, HR.out.below hb⟩, hb⟩
    · have t1 : ((s : Int) == 0) = false := by simp; omega
      obtain ⟨m1, m2, m3⟩ := HM3 rfl (by omega)
      rw [m1, m2, m3]
      clear HM1 HM2 HM3 HM4 HM5 m1 m2 m3 hQ
      go_enter Try.func14, Try.ntmps14
      go_wp2_with fail
      refine HS.out.mono ?_
      rintro e w2 ⟨rfl, hb⟩
      go_wp2_with fail
      refine (HO.out _).mono ?_
      rintro e w3 ⟨rfl, rfl⟩
      have HB := Lib.hid hb
      clear hb
      go_wp2_with fail
      refine (places_any n w2 hn).mono ?_
      rintro e w4 ⟨A, cp, rfl, hP, hb4⟩
      have HB4 := Lib.hid (bon HB.out hb4)
      clear hP hb4
      go_wp2_with fail
      go_loopw [12] (fun i wr => i = .int .i64 0 ∧ Hid (w4 = wr)) (fun _ _ => 0)
      case atStart => exact ⟨rfl, Lib.hid rfl⟩
      case round =>
        obtain ⟨rfl, hw⟩ := hrel
        obtain rfl := hw.out
        go_wp2
        go_ret3
        exact ⟨⟨none, 0, 0, rfl, rfl, Nat.le_refl _, Rw.nil⟩, HB4.out⟩
  · have eQ : ((Y : Int) + (q : Int)) % 2 = 1 := by omega
    rw [hQ] at hqu
    subst hqu
    rcases hsz with h0s | h1s
    · subst h0s
      obtain ⟨m1, m2, m3⟩ := HM2 rfl (.inl rfl)
      rw [m1, m2, m3]
      clear HM1 HM2 HM3 HM4 HM5 m1 m2 m3 hQ
      go_enter Try.func14, Try.ntmps14
      go_wp2_with fail
      refine HS.out.mono ?_
      rintro e w2 ⟨rfl, hb⟩
      go_wp2_with fail
      refine (HO.out _).mono ?_
      rintro e w3 ⟨rfl, rfl⟩
      go_wp2
      go_ret3
      exact ⟨⟨_, n, c, rfl, hl, hnc, HR.out.below hb⟩, hb⟩
    · have t1 : ((s : Int) == 0) = false := by simp; omega
      have HP := Lib.hid fun w' => power_any s w' h1s (by omega)
      rcases hpw : pw s with _ | _
      · rw [hpw] at HP
        have H5 := Lib.hid (HM5 rfl (by omega) hpw)
        have H4 := Lib.hid (HM4 · rfl)
        clear HM1 HM2 HM3 HM4 HM5 hQ hpw
        go_enter Try.func14, Try.ntmps14
        go_wp2_with fail
        refine HS.out.mono ?_
        rintro e w2 ⟨rfl, hb⟩
        go_wp2_with fail
        refine (HO.out _).mono ?_
        rintro e w3 ⟨rfl, rfl⟩
        go_wp2_with fail
        refine (HP.out _).mono ?_
        rintro e w4 ⟨rfl, rfl⟩
        have HB := Lib.hid hb
        clear hb
        go_wp2_with fail
        refine (places_any n w2 hn).mono ?_
        rintro e w4 ⟨A, cp, rfl, hP, hb4⟩
        have HPL := Lib.hid hP
        have HB4 := Lib.hid (bon HB.out hb4)
        clear hP hb4
        go_wp2_with fail
        go_loopw [12] (fun i wr => ∃ k : Nat, k ≤ 8 * n ∧ i = .int .i64 k ∧ Hid (nf s k) ∧ Hid (w4 = wr)) (fun i _ => 8 * n - (intOf i).toNat)
        case atStart => exact ⟨0, by omega, rfl, Lib.hid (fun j hj => by omega), Lib.hid rfl⟩
        case round =>
          obtain ⟨k, hk, rfl, hnf, hw⟩ := hrel
          obtain rfl := hw.out
          clear hw
          have hwT : Hid True := Lib.hid trivial
          by_cases hlt : k < 8 * n
          · obtain ⟨b2, off2, rfl, hcell⟩ := HPL.out.at (j := k) (by rw [pls_length]; exact hlt)
            rw [pls_get hlt] at hcell
            by_cases hps : pl k = s
            · have m4 := H4.out k hps.symm
              rw [if_pos (by rw [hl]; exact hlt)] at m4
              have HMX := Lib.hid (mx_bit m4)
              rw [hps] at hcell
              have HT := Lib.hid (rturned_any b off n c k l w4 (HR.out.below HB4.out) hl hlt hn)
              clear m4 hps
              go_wp2_with fail
              refine HT.out.mono ?_
              rintro e w5 ⟨⟨g, cap, rfl, hgc, hRt⟩, hb5⟩
              have HRT := Lib.hid hRt
              clear hRt
              go_wp2
              go_ret3
              obtain ⟨m1, m2, m3⟩ := HMX.out
              exact ⟨⟨_, n, cap, by rw [m2, m3]; rfl, by rw [m1, tn_length]; exact hl, hgc, by rw [m1]; exact HRT.out⟩, bon HB4.out hb5⟩
            · have t5 : (((pl k : Nat) : Int) == (s : Int)) = false := by simp; omega
              have hnf2 : Hid (nf s (k + 1)) := Lib.hid (fun j hj => by
                rcases (by omega : j < k ∨ j = k) with h | rfl
                · exact hnf.out j h
                · exact hps)
              clear hps
              go_wp2
              go_roundw
              case rel => exact ⟨k + 1, by omega, by go_num, hnf2, hwT⟩
              case measure => simp [intOf]; omega
          · have hkn : k = 8 * n := by omega
            subst hkn
            have HMX := Lib.hid (H5.out hnf.out)
            go_wp2
            go_ret3
            obtain ⟨m1, m2, m3⟩ := HMX.out
            exact ⟨⟨none, 0, 0, by rw [m2, m3]; rfl, by rw [m1]; rfl, Nat.le_refl _, by rw [m1]; exact Rw.nil⟩, HB4.out⟩
      · rw [hpw] at HP
        obtain ⟨m1, m2, m3⟩ := HM2 rfl (.inr hpw)
        rw [m1, m2, m3]
        clear HM1 HM2 HM3 HM4 HM5 m1 m2 m3 hQ hpw
        go_enter Try.func14, Try.ntmps14
        go_wp2_with fail
        refine HS.out.mono ?_
        rintro e w2 ⟨rfl, hb⟩
        go_wp2_with fail
        refine (HO.out _).mono ?_
        rintro e w3 ⟨rfl, rfl⟩
        go_wp2_with fail
        refine (HP.out _).mono ?_
        rintro e w4 ⟨rfl, rfl⟩
        go_wp2
        go_ret3
        exact ⟨⟨_, n, c, rfl, hl, hnc, HR.out.below hb⟩, hb⟩
end Go.Proofs.Ytdcpbbfaakddaaa
