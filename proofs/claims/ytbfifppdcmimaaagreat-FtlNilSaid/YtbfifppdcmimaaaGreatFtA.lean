/-
  The translation: what a chip's blocks are counted, and erased for formatting. Nothing of one statement alone stands here.
-/
import Derived.Test.YtbfifppdcmimaaaGreatKB
namespace Go.Proofs.YtbfifppdcmimaaaGreat
open Go.RowKit Crcm Go.ChangeShapes

theorem Tryz.infoBoF : (Tryz.prog.info? 4).map (fun i => (i.zero, i.size, i.bytes)) = some (some (.bool false), 1, 1) := by kernel_rfl

set_option maxRecDepth 100000 in
set_option maxHeartbeats 1000000 in
theorem dataBlocks_any (nb np sz : Nat) (bad res : Int) (w : World) (h1 : nb < 129) (h2 : 0 ≤ bad ∧ bad ≤ 1000000) (h3 : 0 ≤ res ∧ res ≤ 1000000) :
    Calls Tryz.prog 25 #[.agg #[.int .i64 nb, .int .i64 np, .int .i64 sz], .int .i64 bad, .int .i64 res] w fun e w' => e = .returned (.int .i64 ((nb : Int) - bad - res - 1)) ∧ Below w.heap.size w w' := by
  have hB := Lib.hid ((Below.refl w.heap.size w).alloc (Nat.le_refl _) (.cells #[.int .i64 nb, .int .i64 np, .int .i64 sz] 38))
  go_enter Tryz.func25, Tryz.ntmps25
  go_wp2
  go_ret
  exact ⟨rfl, hB.out⟩

theorem gfield0 (a b c : Int) (w : World) : Sem.run Tryz.prog (Instr.field 38 (.agg #[.int .i64 a, .int .i64 b, .int .i64 c]) 0) w = .ok (.int .i64 a) w := by
  unfold Instr.field
  go_simp
  rfl
/-- how many of the first k blocks are bad -/
def nbd (f : Nat → Bool) : Nat → Nat
  | 0 => 0
  | k + 1 => if f k = true then nbd f k + 1 else nbd f k
theorem nbd_le (f : Nat → Bool) (k : Nat) : nbd f k ≤ k := by
  induction k with
  | zero => exact Nat.le_refl _
  | succ k ih => rw [nbd]; split <;> omega

set_option maxRecDepth 100000 in
set_option maxHeartbeats 1000000 in
theorem badBlocks_any {w : World} {X : Nat → Prop} {o : Own} {c : Ch} (h : ChAt w X o c) :
    Calls Tryz.prog 26 #[.pointer (some ⟨o.bc, 0, none⟩)] w fun e w' => e = .returned (.int .i64 (nbd c.bad c.nb)) ∧ Below w.heap.size w w' := by
  have hnb : c.nb < 129 := h.good.2.1
  have HG := Lib.hid (geo_any h)
  have HBd := Lib.hid (fun W (hb : Below w.heap.size w W) (k : Nat) (hk : k < c.nb) => bad_any (h.below hb) k hk)
  have hop : o.p = .pointer (some ⟨o.bc, 0, none⟩) := rfl
  rw [hop] at HG HBd
  generalize c.nb = nb at hnb HG HBd ⊢
  generalize c.bad = f at HBd ⊢
  clear h hop
  have gf := gfield0
  go_enter Tryz.func26, Tryz.ntmps26
  go_wp2_with fail
  refine HG.out.mono ?_
  rintro e w1 ⟨rfl, hb1⟩
  have HB1 := Lib.hid hb1
  clear hb1 HG
  go_wp2_with fail
  go_loop [3, 8] (fun s i => ∃ k : Nat, k ≤ nb ∧ i = .int .i64 k ∧ s = .int .i64 (nbd f k)) (fun _ i => nb - (intOf i).toNat)
  case atStart => exact ⟨0, by omega, rfl, rfl⟩
  case round =>
    obtain ⟨k, hk, rfl, rfl⟩ := hrel
    by_cases hlt : k < nb
    · have kl : (k : Int) < (nb : Int) := by omega
      have hle := nbd_le f k
      have HS := Lib.hid (show nbd f (k + 1) = if f k = true then nbd f k + 1 else nbd f k from rfl)
      generalize hn : nbd f k = n at hle HS ⊢
      go_wp2_with fail
      refine (HBd.out _ HB1.out k hlt).mono ?_
      rintro e w' ⟨rfl, rfl⟩
      cases hf : f k
      · rw [hf, if_neg (by decide)] at HS
        go_wp2
        go_round
        case rel => exact ⟨k + 1, by omega, by go_num, by rw [HS.out]⟩
        case measure => simp [intOf]; omega
      · rw [hf, if_pos rfl] at HS
        go_wp2
        go_round
        case rel => exact ⟨k + 1, by omega, by go_num, by rw [HS.out]; go_num⟩
        case measure => simp [intOf]; omega
    · have kl : ¬ (k : Int) < (nb : Int) := by omega
      obtain rfl : k = nb := by omega
      go_wp2
      go_ret
      exact ⟨rfl, HB1.out⟩
end Go.Proofs.YtbfifppdcmimaaaGreat
