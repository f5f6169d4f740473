/-
  How many slots, and each of them. Nothing of one statement alone stands here.
-/
import Derived.Test.YtbgimehbencdgaaDirRead
namespace Go.Proofs.Ytbgimehbencdgaa
open Go.RowKit Crcm Tagm Dirm Go.ChangeShapes

theorem cutB (b off n cap x : Nat) (X Y : Int) (hX : X = (x : Int)) (hY : Y = (x : Int) + 16) (h : x + 16 ≤ cap) (W : World) :
    (Instr.slice 24 (.slice (some ⟨b, off, none⟩) n cap) (some (.int .i64 X)) (some (.int .i64 Y)) none).run Try.prog W = .ok (.slice (some ⟨b, off + x, none⟩) 16 (cap - x)) W := by
  subst hX
  subst hY
  have he : Try.prog.underlying 24 = some (.slice (Try.prog.elem 24)) := by rw [elemB, Try.underlying24]
  rw [run_slice_lh W _ _ _ _ he .i64 .i64 _ _ (by omega) (by omega) (by omega), elemB, Try.sizeOf5]
  have h1 : ((x : Int) + 16).toNat - x = 16 := by omega
  have hne : ¬ cap = x := by omega
  simp [Result.andThen, sliced, hne, Addr.add, h1]
theorem slot_any (b off n c k : Nat) (w : World) (hk : k * 16 + 16 ≤ c) (hc : c ≤ 9223372036854775807) :
    Calls Try.prog 31 #[.slice (some ⟨b, off, none⟩) n c, .int .i64 (k : Int)] w fun e w' => e = .returned (.slice (some ⟨b, off + k * 16, none⟩) 16 (c - k * 16)) ∧ w = w' := by
  have hs := cutB b off n c (k * 16) ((k : Int) * 16) (((k : Int) + 1) * 16) (by omega) (by omega) hk
  go_enter Try.func31, Try.ntmps31
  go_wp2
  go_ret
  exact ⟨rfl, rfl⟩
theorem count_any (a : Option Addr) (c n : Nat) (w : World) (n1 : n ≤ 9223372036854775807) :
    Calls Try.prog 34 #[.slice a n c] w fun e w' => e = .returned (.int .i64 ((n / 16 : Nat) : Int)) ∧ w = w' := by
  go_enter Try.func34, Try.ntmps34
  go_wp2
  go_ret
  exact ⟨rfl, rfl⟩

/-- a slot's bytes -/
def slotL (l : List Int) (k : Nat) : List Int := (l.drop (k * 16)).take 16
def rmF (l : List Int) : Nat → Nat → Nat
  | 0, k => k
  | f + 1, k => if nz (slotL l k) then k else rmF l f (k + 1)
/-- the first empty slot's number -/
def rm (l : List Int) : Nat := rmF l (l.length / 16) 0
theorem slotL_len {l : List Int} {k : Nat} (h : k < l.length / 16) : (slotL l k).length = 16 := by
  unfold slotL
  rw [List.length_take, List.length_drop]
  omega
theorem Rw.slot {w : World} {b off : Nat} {l : List Int} (h : Rw w (some ⟨b, off, none⟩) l) (k : Nat) : Rw w (some ⟨b, off + k * 16, none⟩) (slotL l k) :=
  (h.drop (k * 16) (a' := some ⟨b, off + k * 16, none⟩) (fun b' off' e _ => by injection e with e; injection e with e1 e2; subst e1 e2; rfl)).take 16
set_option maxRecDepth 100000 in
theorem room_any (l : List Int) (a : Option Addr) (c n : Nat) (w : World) (ha : Rw w a l) (hl : l.length = n) (hc : n ≤ c) (c1 : c ≤ 9223372036854775807) :
    Calls Try.prog 25 #[.slice a n c] w fun e w' => e = .returned (.int .i64 (rm l : Int)) ∧ w = w' := by
  have HC := Lib.hid (fun w => count_any a c n w (by omega))
  obtain ⟨N, hN⟩ : ∃ N, n / 16 = N := ⟨_, rfl⟩
  have HR : Hid (rmF l N 0 = rm l) := Lib.hid (by unfold rm; rw [hl, hN])
  obtain ⟨r, hr⟩ : ∃ r, rm l = r := ⟨_, rfl⟩
  rw [hr] at HR ⊢
  rw [hN] at HC
  have hb : N * 16 ≤ n := by omega
  have HA := Lib.hid ha
  have HL := Lib.hid hl
  have HN := Lib.hid hN
  clear ha hl hN hr
  go_enter Try.func25, Try.ntmps25
  go_wp2_with fail
  refine (HC.out _).mono ?_
  rintro e w' ⟨rfl, rfl⟩
  go_wp2_with fail
  go_loop [6] (fun i => ∃ k : Nat, k ≤ N ∧ i = .int .i64 k ∧ Hid (rmF l (N - k) k = r)) (fun i => N - (intOf i).toNat)
  case atStart => exact ⟨0, by omega, rfl, HR⟩
  case round =>
    obtain ⟨k, hk, rfl, E⟩ := hrel
    by_cases hlt : k < N
    · have hkl : k < l.length / 16 := by have := HL.out; have := HN.out; omega
      obtain ⟨b1, o1, rfl, _⟩ := HA.out.at (j := 0) (by have := HL.out; omega)
      have kl : (k : Int) < (N : Int) := by omega
      have hks : k * 16 + 16 ≤ c := by omega
      have HS := Lib.hid (fun w => slot_any b1 o1 n c k w hks c1)
      have HE := Lib.hid (empty_any (slotL l k) (some ⟨b1, o1 + k * 16, none⟩) (c - k * 16) 16 w (HA.out.slot k) (slotL_len hkl) (by omega))
      have e1 : N - k = (N - (k + 1)) + 1 := by omega
      rw [e1] at E
      by_cases hz : nz (slotL l k)
      · rw [decide_eq_true hz] at HE
        have hr : (k : Int) = (r : Int) := by have := E.out; simp only [rmF, if_pos hz] at this; omega
        have HR2 := Lib.hid hr
        clear hr hz E e1 hkl HR
        go_wp2_with fail
        refine (HS.out _).mono ?_
        rintro e w' ⟨rfl, rfl⟩
        go_wp2_with fail
        refine HE.out.mono ?_
        rintro e w' ⟨rfl, rfl⟩
        go_wp2
        go_ret
        exact ⟨by rw [HR2.out]; rfl, rfl⟩
      · rw [decide_eq_false hz] at HE
        have HR2 : Hid (rmF l (N - (k + 1)) (k + 1) = r) := Lib.hid (by have := E.out; simp only [rmF, if_neg hz] at this; exact this)
        clear hz E e1 hkl HR
        go_wp2_with fail
        refine (HS.out _).mono ?_
        rintro e w' ⟨rfl, rfl⟩
        go_wp2_with fail
        refine HE.out.mono ?_
        rintro e w' ⟨rfl, rfl⟩
        go_wp2
        go_round
        case rel => exact ⟨k + 1, by omega, by go_num, HR2⟩
        case measure => simp [intOf]; omega
    · have hkn : k = N := by omega
      subst hkn
      rw [Nat.sub_self] at E
      have HR2 : Hid ((k : Int) = (r : Int)) := Lib.hid (by have := E.out; simp only [rmF] at this; omega)
      clear E HR
      go_wp2_with fail
      refine (HC.out _).mono ?_
      rintro e w' ⟨rfl, rfl⟩
      go_wp2
      go_ret
      exact ⟨by rw [HR2.out]; rfl, rfl⟩

end Go.Proofs.Ytbgimehbencdgaa
