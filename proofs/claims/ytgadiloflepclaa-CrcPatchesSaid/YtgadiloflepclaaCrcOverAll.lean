/-
  What the program makes of a remainder that n bytes 0 are put to.
-/
import Derived.Test.YtgadiloflepclaaCrcTwice
namespace Go.Proofs.Ytgadiloflepclaa
open Go.RowKit Crcm Go.ChangeShapes

theorem and64_one (m : Nat) (_h : m < 9223372036854775808) : bits .and .i64 (m : Int) 1 = ((m % 2 : Nat) : Int) := by
  have e : ((BitVec.ofInt 64 (m : Int)) &&& (BitVec.ofInt 64 1)).toNat = m % 2 := by
    rw [BitVec.toNat_and, show (BitVec.ofInt 64 1).toNat = 1 from rfl, nat_mask1, BitVec.toNat_ofInt]
    omega
  show IntKind.i64.wrap (((BitVec.ofInt 64 (m : Int)) &&& (BitVec.ofInt 64 1)).toNat : Int) = _
  rw [e]
  have hw : ∀ q : Nat, q < 2 → IntKind.i64.wrap (q : Int) = q := by
    intro q hq
    rcases (by omega : q = 0 ∨ q = 1) with rfl | rfl <;> rfl
  exact hw _ (by omega)

theorem U_shl (j : Nat) : U32 ((2 : Int) ^ j % 4294967296) := ⟨by omega, by omega⟩
theorem V_shl (j : Nat) : V ((2 : Int) ^ j % 4294967296) = BitVec.twoPow 32 j := by
  apply BitVec.eq_of_toNat_eq
  rw [toNat_V (U_shl j), BitVec.toNat_twoPow]
  have e : ((2 : Int) ^ j % 4294967296) = ((2 ^ j % 4294967296 : Nat) : Int) := by
    rw [Int.natCast_emod, Int.natCast_pow]; rfl
  rw [e, Int.toNat_natCast]
theorem put_shl (j : Nat) (w : World) :
    Calls Try.prog 15 #[.int .u32 ((2 : Int) ^ j % 4294967296), .int .u8 0] w fun e w' => e = .returned (.int .u32 (N (col 8 j))) ∧ w = w' := by
  have h := put_any ((2 : Int) ^ j % 4294967296) 0 w (U_shl j) ⟨by decide, by decide⟩
  have e : pt ((2 : Int) ^ j % 4294967296) 0 = N (col 8 j) := by
    unfold pt col
    rw [V_shl, show V 0 = 0#32 from by decide, BitVec.xor_zero]
  rwa [e] at h

theorem halves_odd {m kk : Nat} (x : BitVec 32) (h : m % 2 = 1) : it ((kk + kk) * (m / 2)) (it kk x) = it (kk * m) x := by
  rw [← it_add]
  congr 1
  have : m = 2 * (m / 2) + 1 := by omega
  conv => rhs; rw [this]
  rw [Nat.mul_add, Nat.mul_one, ← Nat.mul_assoc, Nat.mul_two, Nat.add_comm]
theorem halves_even {m kk : Nat} (x : BitVec 32) (h : m % 2 = 0) : it ((kk + kk) * (m / 2)) x = it (kk * m) x := by
  congr 1
  have : m = 2 * (m / 2) := by omega
  conv => rhs; rw [this]
  rw [← Nat.mul_assoc, Nat.mul_two]

set_option maxRecDepth 100000 in
set_option maxHeartbeats 400000 in
theorem over_any (r : Int) (n : Nat) (w : World) (hr : U32 r) (hn : n ≤ 1073741824) :
    Calls Try.prog 52 #[.int .u32 r, .int .i64 n] w fun e w' => e = .returned (.int .u32 (N (it (8 * n) (V r)))) ∧ Below w.heap.size w w' := by
  have HN := Lib.hid hn
  clear hn
  go_enter Try.func52, Try.ntmps52
  go_wp2_with fail
  generalize hz0 : (#[Value.int IntKind.u32 0, Value.int IntKind.u32 0, Value.int IntKind.u32 0, Value.int IntKind.u32 0,
        Value.int IntKind.u32 0, Value.int IntKind.u32 0, Value.int IntKind.u32 0, Value.int IntKind.u32 0,
        Value.int IntKind.u32 0, Value.int IntKind.u32 0, Value.int IntKind.u32 0, Value.int IntKind.u32 0,
        Value.int IntKind.u32 0, Value.int IntKind.u32 0, Value.int IntKind.u32 0, Value.int IntKind.u32 0,
        Value.int IntKind.u32 0, Value.int IntKind.u32 0, Value.int IntKind.u32 0, Value.int IntKind.u32 0,
        Value.int IntKind.u32 0, Value.int IntKind.u32 0, Value.int IntKind.u32 0, Value.int IntKind.u32 0,
        Value.int IntKind.u32 0, Value.int IntKind.u32 0, Value.int IntKind.u32 0, Value.int IntKind.u32 0,
        Value.int IntKind.u32 0, Value.int IntKind.u32 0, Value.int IntKind.u32 0, Value.int IntKind.u32 0] : Array Value) = z
  have hz1 : z = pa 8 0 := by rw [← hz0]; rfl
  subst hz1
  clear hz0
  go_loopw [7] (fun c wr => ∃ j : Nat, j ≤ 32 ∧ c = .int .i64 j ∧ Blk wr w.heap.size 117 (pa 8 j) ∧ Below w.heap.size w wr) (fun c _ => 32 - (intOf c).toNat)
  case atStart => exact ⟨0, by omega, rfl, Blk.new w _ _ _ rfl, (Below.refl _ _).alloc (Nat.le_refl _) _⟩
  case round =>
    obtain ⟨j, hj, rfl, q0, hbel⟩ := hrel
    by_cases hlt : j < 32
    · have hf := q0.frozen j
      obtain ⟨v0, hd⟩ : ∃ v0, wr.cell? ⟨w.heap.size, j, none⟩ = some v0 := by
        refine ⟨(pa 8 j)[j]'(by rw [pa_size]; exact hlt), ?_⟩
        rw [q0.cell j]; simp [pa_size, hlt]
      go_wp2_with (go_at_call 15; refine (put_shl _ _).mono ?_; rintro e w' ⟨rfl, rfl⟩)
      go_roundw
      case rel =>
        have q1 := q0.set_ j (.int .u32 (N (col 8 j)))
        rw [pa_set] at q1
        exact ⟨j + 1, by omega, by go_num, q1, hbel.setCell (p := ⟨w.heap.size, j, none⟩) (Nat.le_refl _) _⟩
      case measure => simp [intOf]; omega
    · have hj32 : j = 32 := by omega
      rw [hj32, pa_all] at q0
      have HB := Lib.hid hbel
      have HQ := Lib.hid q0
      clear hj32 hbel q0
      go_wp2_with fail
      go_loopw [0, 1] (fun t c wr => ∃ m : Nat, ∃ kk : Nat, ∃ x : Int, m ≤ n ∧ c = .int .i64 m ∧ t = .int .u32 x ∧ U32 x ∧ Hid (it (kk * m) (V x) = it (8 * n) (V r)) ∧ Blk wr w.heap.size 117 (ca kk) ∧ Below w.heap.size w wr) (fun _ c _ => (intOf c).toNat)
      case atStart => exact ⟨n, 8, r, Nat.le_refl _, rfl, rfl, hr, Lib.hid rfl, HQ.out, HB.out⟩
      case round =>
        obtain ⟨m, kk, x, hm, rfl, rfl, hx, hv, q0, hbel⟩ := hrel
        by_cases hlt : 0 < m
        · have hmn : m < 9223372036854775808 := by have := HN.out; omega
          have hand := and64_one m hmn
          clear hmn
          rcases (by omega : m % 2 = 1 ∨ m % 2 = 0) with h2 | h2
          · rw [h2] at hand
            have hb : (bits .and .i64 (m : Int) 1 == 1) = true := by rw [hand]; rfl
            have H2 := Lib.hid h2
            clear hand h2
            go_wp2_with (refine wpList_load_row rfl 117 _ rfl w.heap.size rfl 117 (ca kk) (0, 0) _ q0 Try.underlying117 rfl (by rw [Try.size117, ca_size]) ?_)
            refine (of_any kk _ _ hx).mono ?_
            rintro e w2 ⟨rfl, hb2⟩
            have q2 := q0.below hb2 q0.lt
            go_wp2_with (refine wpList_load_row rfl 117 _ rfl w.heap.size rfl 117 (ca kk) (0, 0) _ q2 Try.underlying117 rfl (by rw [Try.size117, ca_size]) ?_)
            refine (twice_any kk _).mono ?_
            rintro e w3 ⟨rfl, hb3⟩
            have q3 := Blk.below q2 hb3 (Blk.lt q2)
            go_wp2_with (refine wpList_store_row rfl 117 _ _ rfl w.heap.size (ca (kk + kk)) rfl rfl 117 _ q3 (by rw [Try.size117, ca_size]) (by rw [ca_size, ca_size]) (ca_one _) ?_)
            go_roundw
            case rel =>
              exact ⟨m / 2, kk + kk, _, by omega, by go_num, rfl, U32_N _, Lib.hid (by rw [V_N, halves_odd _ H2.out, hv.out]), setRow_heap _ _ _ _ _ _ q3, below_row ((hbel.trans (hb2.mono hbel.size)).trans (hb3.mono (Nat.le_trans hbel.size hb2.size))) (Nat.le_refl _) _⟩
            case measure => simp [intOf]; omega
          · rw [h2] at hand
            have hb : (bits .and .i64 (m : Int) 1 == 1) = false := by rw [hand]; rfl
            have H2 := Lib.hid h2
            clear hand h2
            go_wp2_with (refine wpList_load_row rfl 117 _ rfl w.heap.size rfl 117 (ca kk) (0, 0) _ q0 Try.underlying117 rfl (by rw [Try.size117, ca_size]) ?_)
            refine (twice_any kk _).mono ?_
            rintro e w3 ⟨rfl, hb3⟩
            have q3 := Blk.below q0 hb3 (Blk.lt q0)
            go_wp2_with (refine wpList_store_row rfl 117 _ _ rfl w.heap.size (ca (kk + kk)) rfl rfl 117 _ q3 (by rw [Try.size117, ca_size]) (by rw [ca_size, ca_size]) (ca_one _) ?_)
            go_roundw
            case rel =>
              exact ⟨m / 2, kk + kk, _, by omega, by go_num, rfl, hx, Lib.hid (by rw [halves_even _ H2.out, hv.out]), setRow_heap _ _ _ _ _ _ q3, below_row (hbel.trans (hb3.mono hbel.size)) (Nat.le_refl _) _⟩
            case measure => simp [intOf]; omega
        · have hm0 : m = 0 := by omega
          subst hm0
          go_wp2
          go_ret
          have e := hv.out
          rw [Nat.mul_zero] at e
          exact ⟨ret_u32 (by rw [← e]; exact (N_V hx).symm), hbel⟩

end Go.Proofs.Ytgadiloflepclaa
