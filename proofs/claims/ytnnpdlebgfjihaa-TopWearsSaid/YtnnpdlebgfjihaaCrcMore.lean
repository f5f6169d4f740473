/-
  What the calls More and Sum answer (the program's and the document's): the remainder behind a row of bytes, turned.
-/
import Derived.Test.YtnnpdlebgfjihaaCrcPut
namespace Go.Proofs.Ytnnpdlebgfjihaa
open Go.RowKit Crcm

/-- a slice that reads as these bytes: where there is one, the first lies at the address -/
def Rw (w : World) (a : Option Addr) (zs : List Int) : Prop :=
  (∀ n ∈ zs, U8 n) ∧ zs.length ≤ maxLen ∧ (zs = [] ∨ ∃ b off, a = some ⟨b, off, none⟩ ∧ ∀ i, i < zs.length → w.cell? ⟨b, off + i, none⟩ = some (.int .u8 (zs.getD i 0)))

/-- the sum that goes on -/
def mo (s : Int) (zs : List Int) : Int := N (~~~ F (~~~ V s) (zs.map V))
theorem U32_mo (s : Int) (zs : List Int) : U32 (mo s zs) := U32_N _

set_option maxHeartbeats 400000 in
theorem more_any (s : Int) (a : Option Addr) (cap : Nat) (zs : List Int) (w : World) (hs : U32 s) (hr : Rw w a zs) :
    Calls Try.prog 116 #[.int .u32 s, .slice a zs.length cap] w fun e w' => e = .returned (.int .u32 (mo s zs)) ∧ w = w' := by
  obtain ⟨hz, hm, hc⟩ := hr
  unfold maxLen at hm
  go_enter Try.func116, Try.ntmps116
  go_wp2_with fail
  go_loop [5, 12] (fun t i => ∃ k : Nat, ∃ n : Int, k ≤ zs.length ∧ U32 n ∧ i = .int .i64 k ∧ t = .int .u32 n ∧ Hid (V n = F (~~~ V s) ((zs.take k).map V))) (fun _ i => zs.length - (intOf i).toNat)
  case atStart => exact ⟨0, _, by omega, U_not hs, rfl, rfl, Lib.hid (by rw [V_not hs]; rfl)⟩
  case round =>
    obtain ⟨k, n, hk, hn, rfl, rfl, hv⟩ := hrel
    by_cases hlt : k < zs.length
    · rcases hc with hc | ⟨b, off, rfl, hc⟩
      · subst hc; simp at hlt
      have hcell := hc k hlt
      have hb8 : U8 zs[k] := hz _ (List.getElem_mem hlt)
      clear hc
      go_wp2_with (go_at_call 118; refine (put_any _ _ _ hn hb8).mono ?_; rintro e w' ⟨rfl, rfl⟩)
      go_round
      case rel => exact ⟨k + 1, _, by omega, U32_pt _ _, by go_num, rfl, Lib.hid (by rw [F_take hlt, ← hv.out]; exact V_N _)⟩
      case measure => simp [intOf]; omega
    · go_wp2
      go_ret
      exact ⟨ret_u32 (by unfold mo; rw [not32 hn, hv.out, take_all hlt]), rfl⟩

theorem sum_any (a : Option Addr) (cap : Nat) (zs : List Int) (w : World) (hr : Rw w a zs) :
    Calls Try.prog 100 #[.slice a zs.length cap] w fun e w' => e = .returned (.int .u32 (mo 0 zs)) ∧ w = w' := by
  go_enter Try.func100, Try.ntmps100
  go_wp2_with (go_at_call 116; refine (more_any _ _ _ _ _ ⟨by decide, by decide⟩ hr).mono ?_; rintro e w' ⟨rfl, rfl⟩)
  go_ret
  exact ⟨rfl, rfl⟩

end Go.Proofs.Ytnnpdlebgfjihaa
