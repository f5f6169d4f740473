/-
  What must come of the fixed calls of layer 25; the law HistWrites.
-/
import Derived.Test.YthngpmiclbbpnaaGreatHistO
namespace Go.Proofs.YthngpmiclbbpnaaGreat
open Go.RowKit Crcm Tagm Go.ChangeShapes

set_option maxRecDepth 100000 in
theorem hread_short (a : Option Addr) (n c : Nat) (w : World) (hn : n < 12) :
    Calls Tryz.prog 9 #[.slice a n c] w fun e w' => e = .returned (.tuple #[.slice none 0 0, .int .i64 21]) ∧ w = w' := by
  have t1 : decide ((8388608 : Int) < (n : Int)) = false := decide_eq_false (by omega)
  have t2 : decide ((n : Int) < 12) = true := decide_eq_true (by omega)
  go_enter Tryz.func9, Tryz.ntmps9
  go_wp2
  go_ret2
  exact ⟨rfl, rfl⟩
set_option maxRecDepth 100000 in
theorem asks_nil (w : World) : Calls Tryz.prog 58 #[.pointer none] w fun e w' => e = .returned (.int .i64 3) ∧ w = w' := by
  go_enter Tryz.func58, Tryz.ntmps58
  go_wp2
  go_ret
  exact ⟨rfl, rfl⟩
set_option maxRecDepth 100000 in
theorem changes_nil (w : World) : Calls Tryz.prog 44 #[.pointer none] w fun e w' => e = .returned (.int .i64 3) ∧ w = w' := by
  have HA := Lib.hid (asks_nil w)
  go_enter Tryz.func44, Tryz.ntmps44
  go_wp2_with fail
  refine HA.out.mono ?_
  rintro e w' ⟨rfl, rfl⟩
  go_wp2
  go_ret
  exact ⟨rfl, rfl⟩
set_option maxRecDepth 100000 in
theorem sync_nil (w : World) : Calls Tryz.prog 25 #[.pointer none] w fun e w' => e = .returned (.int .i64 3) ∧ w = w' := by
  have HA := Lib.hid (changes_nil w)
  go_enter Tryz.func25, Tryz.ntmps25
  go_wp2_with fail
  refine HA.out.mono ?_
  rintro e w' ⟨rfl, rfl⟩
  go_wp2
  go_ret
  exact ⟨rfl, rfl⟩
/-- the operation Sync, as it is built -/
def o14 : Ho := ⟨14, ⟨#[]⟩, ⟨#[]⟩, 0, 0, 0, []⟩
theorem o14_rg : Rg o14 := by
  unfold Rg o14
  refine ⟨⟨by decide, by decide⟩, ⟨?_, ?_, ?_⟩, ⟨by decide, by decide⟩, by decide, by decide⟩
  · show (0 : Nat) ≤ 255; omega
  · show (0 : Nat) ≤ 255; omega
  · show (0 : Nat) ≤ 1024; omega
set_option maxRecDepth 100000 in
set_option maxHeartbeats 1000000 in
theorem hisdo_nil (w : World) : Calls Tryz.prog 10 #[.pointer none, .agg #[.int .i64 14, .string ⟨#[]⟩, .string ⟨#[]⟩, .int .i64 0, .int .i64 0, .int .i64 0, .slice none 0 0]] w fun e w' => e = .returned (.agg #[.int .i64 3, .int .i64 0, .slice none 0 0]) ∧ Below w.heap.size w w' := by
  go_enter Tryz.func10, Tryz.ntmps10
  go_wp2
  exact bodyPost_ret (v := .agg #[.int .i64 3, .int .i64 0, .slice none 0 0]) (by simp [results, Tryz.results10, go_sem]) rfl ⟨rfl, ((Below.refl w.heap.size w).alloc (Nat.le_refl _) _).alloc (by simp) _⟩
set_option maxRecDepth 100000 in
set_option maxHeartbeats 1000000 in
theorem hdo_nil (w : World) : Calls Tryz.prog 11 #[.pointer none, .agg #[.int .i64 14, .string ⟨#[]⟩, .string ⟨#[]⟩, .int .i64 0, .int .i64 0, .int .i64 0, .slice none 0 0]] w fun e w' => e = .returned (.agg #[.int .i64 3, .int .i64 0, .slice none 0 0]) ∧ Below w.heap.size w w' := by
  have HR := Lib.hid (fun W => hright_any o14 none 0 0 rfl ⟨by unfold maxLen; show (0:Nat) ≤ _; omega, by unfold maxLen; show (0:Nat) ≤ _; omega, by unfold maxLen; omega⟩ W)
  have HS := Lib.hid (fun W => sync_nil W)
  have td : decide (Rg o14) = true := decide_eq_true o14_rg
  rw [td] at HR
  unfold o14 at HR
  clear td
  go_enter Tryz.func11, Tryz.ntmps11
  have hb0 := ((Below.refl w.heap.size w).alloc (Nat.le_refl _) (.cells #[.int .i64 14, .string ⟨#[]⟩, .string ⟨#[]⟩, .int .i64 0, .int .i64 0, .int .i64 0, .slice none 0 0] 41)).alloc (by simp) (.cells #[.int .i64 0, .int .i64 0, .slice none 0 0] 39)
  have HK := Lib.hid ((Blk.new w 41 #[.int .i64 14, .string ⟨#[]⟩, .string ⟨#[]⟩, .int .i64 0, .int .i64 0, .int .i64 0, .slice none 0 0]).alloc (.cells #[.int .i64 0, .int .i64 0, .slice none 0 0] 39))
  have HA : Hid (Blk ((w.alloc (.cells #[.int .i64 14, .string ⟨#[]⟩, .string ⟨#[]⟩, .int .i64 0, .int .i64 0, .int .i64 0, .slice none 0 0] 41)).alloc (.cells #[.int .i64 0, .int .i64 0, .slice none 0 0] 39)) (w.heap.size + 1) 39 #[.int .i64 0, .int .i64 0, .slice none 0 0]) := Lib.hid (by
    have := Blk.new (w.alloc (.cells #[.int .i64 14, .string ⟨#[]⟩, .string ⟨#[]⟩, .int .i64 0, .int .i64 0, .int .i64 0, .slice none 0 0] 41)) 39 #[.int .i64 0, .int .i64 0, .slice none 0 0]
    simpa using this)
  have HB := Lib.hid hb0
  clear hb0
  go_upto_region 1 with (fail)
  generalize ((w.alloc (.cells #[.int .i64 14, .string ⟨#[]⟩, .string ⟨#[]⟩, .int .i64 0, .int .i64 0, .int .i64 0, .slice none 0 0] 41)).alloc (.cells #[.int .i64 0, .int .i64 0, .slice none 0 0] 39)) = W at HK HA HB ⊢
  obtain ⟨p, hp⟩ : ∃ p, w.heap.size = p := ⟨_, rfl⟩
  have HP := Lib.hid hp
  rw [hp] at HK HA ⊢
  clear hp
  have q0 : W.cell? ⟨p, 0, none⟩ = some (.int .i64 14) := HK.out.cell 0
  have q1 : W.cell? ⟨p, 1, none⟩ = some (.string ⟨#[]⟩) := HK.out.cell 1
  have q2 : W.cell? ⟨p, 2, none⟩ = some (.string ⟨#[]⟩) := HK.out.cell 2
  have q3 : W.cell? ⟨p, 3, none⟩ = some (.int .i64 0) := HK.out.cell 3
  have q4 : W.cell? ⟨p, 4, none⟩ = some (.int .i64 0) := HK.out.cell 4
  have q5 : W.cell? ⟨p, 5, none⟩ = some (.int .i64 0) := HK.out.cell 5
  have q6 : W.cell? ⟨p, 6, none⟩ = some (.slice none 0 0) := HK.out.cell 6
  go_wp2_with fail
  refine (HR.out _).mono ?_
  rintro e W1 ⟨rfl, hb⟩
  have HB1 := Lib.hid (HB.out.trans (hb.mono HB.out.size))
  have HK1 := Lib.hid (HK.out.below hb HK.out.lt)
  have HA1 := Lib.hid (HA.out.below hb HA.out.lt)
  clear hb q0 q1 q2 q3 q4 q5 q6 HK HA HB
  have q0 : W1.cell? ⟨p, 0, none⟩ = some (.int .i64 14) := HK1.out.cell 0
  go_wp2_with fail
  refine (HS.out _).mono ?_
  rintro e W2 ⟨rfl, rfl⟩
  have a0 : W1.cell? ⟨p + 1, 0, none⟩ = some (.int .i64 0) := HA1.out.cell 0
  have a1 : W1.cell? ⟨p + 1, 1, none⟩ = some (.int .i64 0) := HA1.out.cell 1
  have a2 : W1.cell? ⟨p + 1, 2, none⟩ = some (.slice none 0 0) := HA1.out.cell 2
  have f0 := HA1.out.frozen 0
  have f1 := HA1.out.frozen 1
  have f2 := HA1.out.frozen 2
  have HB3 : Hid (Below w.heap.size w (((W1.setCell ⟨p + 1, 0, none⟩ (.int .i64 3)).setCell ⟨p + 1, 1, none⟩ (.int .i64 0)).setCell ⟨p + 1, 2, none⟩ (.slice none 0 0))) := Lib.hid
    (((HB1.out.setCell (p := ⟨p + 1, 0, none⟩) (by show w.heap.size ≤ p + 1; have := HP.out; omega) _).setCell (p := ⟨p + 1, 1, none⟩) (by show w.heap.size ≤ p + 1; have := HP.out; omega) _).setCell (p := ⟨p + 1, 2, none⟩) (by show w.heap.size ≤ p + 1; have := HP.out; omega) _)
  have HK3 := Lib.hid (((HA1.out.put 0 (.int .i64 3)).put 1 (.int .i64 0)).put 2 (.slice none 0 0))
  go_wp2
  have k0 := HK3.out.cell 0
  have k1 := HK3.out.cell 1
  have k2 := HK3.out.cell 2
  exact bodyPost_ret (v := .agg #[.int .i64 3, .int .i64 0, .slice none 0 0]) (by simp [results, Tryz.results11, go_sem, k0, k1, k2]) rfl ⟨rfl, HB3.out⟩
set_option maxRecDepth 100000 in
set_option maxHeartbeats 1000000 in
theorem again_nil (w : World) : Calls Tryz.prog 12 #[.pointer none, .pointer none] w fun e w' => e = .returned (.tuple #[.int .i64 0, .int .i64 3]) ∧ Below w.heap.size w w' := by
  go_enter Tryz.func12, Tryz.ntmps12
  go_wp2
  go_ret2
  exact ⟨rfl, (Below.refl w.heap.size w).alloc (Nat.le_refl _) _⟩

theorem uw0 : uw 0 = 0 := by unfold uw; rw [IntKind.wrap_u64]; rfl
theorem wB_nil : wE [] = 0 ∧ (wB []).length = 12 ∧ (wB []).take 8 = [72, 73, 83, 84, 0, 0, 0, 0] := by
  have h1 : wE [] = 0 := by unfold wE; rw [if_neg (by simp), if_pos (by simp)]
  have h2 : body [] = [72, 73, 83, 84, 0, 0, 0, 0] := by
    unfold body
    simp only [List.length_nil, Int.ofNat_zero]
    rw [uw0]
    rfl
  refine ⟨h1, ?_, ?_⟩
  · unfold wB; rw [if_pos h1, List.length_append, le_length, h2]; rfl
  · unfold wB; rw [if_pos h1, h2]; rfl
theorem wB_U8 {L : List Ho} (h : ∀ o ∈ L, Bw o) : ∀ x ∈ wB L, U8 x := by
  intro x hx
  unfold wB at hx
  split at hx
  · rw [List.mem_append] at hx
    rcases hx with hx | hx
    · exact body_U8 h x hx
    · exact le_U8 _ _ x hx
  · cases hx

end Go.Proofs.YthngpmiclbbpnaaGreat
