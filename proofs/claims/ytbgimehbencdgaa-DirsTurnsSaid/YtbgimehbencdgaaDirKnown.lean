/-
  Write in one sentence, and the fixed calls that each statement on dirs ends with.
-/
import Derived.Test.YtbgimehbencdgaaDirCheck
import Derived.Test.YtbgimehbencdgaaDirRefRead
import Derived.Test.YtbgimehbencdgaaDirRefWrite
import Derived.Test.YtbgimehbencdgaaTagNum
namespace Go.Proofs.Ytbgimehbencdgaa
open Go.RowKit Crcm Tagm Dirm Go.ChangeShapes

theorem Blk.rw8 {W : World} {g : Nat} {l : List Int} (h : Blk W g 5 (l.map (Value.int .u8)).toArray) (hU : ∀ n ∈ l, U8 n) (hn : l.length ≤ maxLen) : Rw W (some ⟨g, 0, none⟩) l :=
  ⟨hU, hn, .inr ⟨g, 0, rfl, fun i hi => by
    have := h.cell (0 + i)
    rw [this]
    simp [hi]⟩⟩
theorem sb_U8 {i : Int} {s : ByteArray} (hm : Mi i) (hn : Nm s) : ∀ n ∈ sb i s, U8 n := fun n h => by
  obtain ⟨i0, i1⟩ := hm
  obtain ⟨⟨s0, s1⟩, -⟩ := hn
  unfold sb at h
  rcases List.mem_cons.1 h with rfl | h
  · unfold U8; omega
  rcases List.mem_cons.1 h with rfl | h
  · unfold U8; omega
  rcases List.mem_cons.1 h with rfl | h
  · unfold U8; omega
  rcases List.mem_append.1 h with h | h
  · exact nb_U8 s n h
  · rw [(List.mem_replicate.1 h).2]; unfold U8; omega
theorem w_yes {i : Int} {s : ByteArray} (h : wE i s = 0) : Mi i ∧ Nm s := by
  unfold wE at h
  by_cases hm : Mi i
  · rw [if_pos hm] at h
    by_cases hn : Nm s
    · exact ⟨hm, hn⟩
    · rw [nm_no hn] at h; omega
  · rw [if_neg hm] at h; omega
theorem dwrite_all (i : Int) (s : ByteArray) (w : World) : Calls Try.prog 10 #[ev i s] w fun e w' => (∃ A c, e = .returned (.tuple #[.slice A (wB i s).length c, .int .i64 (wE i s)]) ∧ (wB i s).length ≤ c ∧ c ≤ 9223372036854775807 ∧ Rw w' A (wB i s)) ∧ Below w.heap.size w w' := by
  by_cases h : wE i s = 0
  · obtain ⟨hm, hn⟩ := w_yes h
    have e1 : wB i s = sb i s := by unfold wB; rw [if_pos h]
    rw [h, e1, sb_length hn.1.2]
    refine (dwrite_yes i s w hm hn).mono ?_
    rintro e w' ⟨g, rfl, hB, _, hb⟩
    exact ⟨⟨_, _, rfl, Nat.le_refl _, by omega, hB.rw8 (sb_U8 hm hn) (by rw [sb_length hn.1.2]; unfold maxLen; omega)⟩, hb⟩
  · have e1 : wB i s = [] := by unfold wB; rw [if_neg h]
    rw [e1]
    refine (dwrite_no i s w h).mono ?_
    rintro e w' ⟨rfl, hb⟩
    exact ⟨⟨none, 0, rfl, Nat.le_refl _, by omega, Rw.nil⟩, hb⟩
theorem rwrite_all (i : Int) (s : ByteArray) (w : World) : Calls Try.prog 11 #[ev i s] w fun e w' => (∃ A c, e = .returned (.tuple #[.slice A (wB i s).length c, .int .i64 (wE i s)]) ∧ Rw w' A (wB i s)) ∧ Below w.heap.size w w' := by
  by_cases h : wE i s = 0
  · obtain ⟨hm, hn⟩ := w_yes h
    have e1 : wB i s = sb i s := by unfold wB; rw [if_pos h]
    rw [h, e1, sb_length hn.1.2]
    refine (rwrite_yes i s w hm hn).mono ?_
    rintro e w' ⟨A, cc, rfl, hr, hb⟩
    exact ⟨⟨A, cc, rfl, hr⟩, hb⟩
  · have e1 : wB i s = [] := by unfold wB; rw [if_neg h]
    rw [e1]
    refine (rwrite_no i s w h).mono ?_
    rintro e w' ⟨rfl, hb⟩
    exact ⟨⟨none, 0, rfl, Rw.nil⟩, hb⟩

def ab : ByteArray := ⟨#[97, 98]⟩
def abB : List Int := [3, 0, 2, 97, 98, 0, 0, 0, 0, 0, 0, 0, 0, 0, 0, 0]
theorem ab_Nm : Nm ab := ⟨by decide, fun h => absurd (congrArg ByteArray.size h) (by decide), fun h => absurd (congrArg (fun b : ByteArray => b.data.toList) h) (by decide), by decide, by decide⟩
theorem ab_E : wE 3 ab = 0 := by unfold wE; rw [if_pos (by decide), nm_yes ab_Nm]
theorem ab_B : wB 3 ab = abB := by unfold wB; rw [if_pos ab_E]; decide
theorem ck16 : ck (List.replicate 16 0) = 50 := by
  have hz : nz (slotL (List.replicate 16 0) 0) := by decide
  have hl : (slotL (List.replicate 16 0) 0).length = 16 := by decide
  obtain ⟨q1, q2, q3, q4⟩ := r_zero hl hz
  show (if _ then ckF _ 1 0 true else _) = _
  rw [if_pos (by decide), ckF, q1, q2]
  decide
theorem mk15 (W : World) : (Instr.makeSlice 24 (.int .i64 15) (.int .i64 15)).run Try.prog W = .ok (.slice (some ⟨W.heap.size, 0, none⟩) 15 15) (W.alloc (.cells ((List.replicate 15 (0 : Int)).map (Value.int .u8)).toArray 5)) := by
  obtain ⟨i0, hi, hz0, hz1, hz2⟩ := info_parts Try.info8
  have := run_make (P := Try.prog) W 24 5 i0 (.int .u8 0) Try.underlying24 hi hz0 .i64 .i64 15 15 (by omega) (Int.le_refl _) (by rw [hz2]; omega) (by omega)
  rw [this, hz1, show madeCells (Value.int .u8 0).cells (Int.toNat 15 * 1) = ((List.replicate 15 (0 : Int)).map (Value.int .u8)).toArray by kernel_rfl]
  rfl
theorem mk16l (W : World) : (Instr.makeSlice 24 (.int .i64 16) (.int .i64 16)).run Try.prog W = .ok (.slice (some ⟨W.heap.size, 0, none⟩) 16 16) (W.alloc (.cells ((List.replicate 16 (0 : Int)).map (Value.int .u8)).toArray 5)) := mk16 W
theorem rep_U8 (n : Nat) : ∀ x ∈ List.replicate n (0 : Int), U8 x := fun x h => by rw [(List.mem_replicate.1 h).2]; unfold U8; omega
theorem abB_U8 : ∀ x ∈ abB, U8 x := by rw [← ab_B]; unfold wB; rw [if_pos ab_E]; exact sb_U8 (by decide) ab_Nm
theorem room0 : rm [] = 0 := rfl

set_option maxRecDepth 100000 in
set_option maxHeartbeats 2000000 in
theorem dknown_any (w : World) : Calls Try.prog 9 #[] w fun e w' => e = .returned (.bool true) ∧ Below w.heap.size w w' := by
  have C1 := Lib.hid (fun w => dwrite_all 3 ab w)
  rw [ab_B, ab_E] at C1
  unfold ev at C1
  have C2 := Lib.hid (fun W g (hb : Rw W (some ⟨g, 0, none⟩) (List.replicate 15 0)) => dread_any (List.replicate 15 0) (some ⟨g, 0, none⟩) 15 15 W hb (by simp) (by omega) (by omega))
  obtain ⟨q1, q2, q3, q4⟩ := r_len (l := List.replicate 15 0) (by simp)
  rw [q1, q2, q3, q4] at C2
  clear q1 q2 q3 q4
  unfold rv at C2
  have hm5 := mk15
  have hm6 := mk16l
  have C3 := Lib.hid (fun w => room_any [] none 0 0 w Rw.nil rfl (by omega) (by omega))
  rw [room0] at C3
  go_enter Try.func9, Try.ntmps9
  go_wp2_with fail
  refine (C1.out _).mono ?_
  rintro e w1 ⟨⟨A, c, rfl, hlc, hc1, hr⟩, hb1⟩
  go_wp2_with fail
  obtain ⟨W1, hW1⟩ : ∃ W1, w1.alloc (.cells ((List.replicate 15 (0 : Int)).map (Value.int .u8)).toArray 5) = W1 := ⟨_, rfl⟩
  have k1 : Blk W1 w1.heap.size 5 ((List.replicate 15 (0 : Int)).map (Value.int .u8)).toArray := by rw [← hW1]; exact Blk.new _ _ _
  have b1 : Below w.heap.size w W1 := by rw [← hW1]; exact hb1.alloc hb1.size _
  have hr1 : Rw W1 A abB := by rw [← hW1]; exact hr.below ((Below.refl _ _).alloc (Nat.le_refl _) _)
  refine (show Calls Try.prog _ _ _ _ from (C2.out _ _ ((Blk.new w1 _ _).rw8 (rep_U8 15) (by simp; unfold maxLen; omega))).mono ?_)
  rintro e w2 ⟨rfl, hb2⟩
  change Below (w1.alloc (.cells ((List.replicate 15 (0 : Int)).map (Value.int .u8)).toArray 5)).heap.size (w1.alloc (.cells ((List.replicate 15 (0 : Int)).map (Value.int .u8)).toArray 5)) w2 at hb2
  rw [hW1] at hb2
  have b2 := b1.trans (hb2.mono b1.size)
  have hr2 := hr1.below hb2
  clear hW1 k1 b1 hr1 hb2 hb1 hr C2 C1
  go_wp2_with fail
  have HS := same_any A (some ⟨(w2.alloc (.cells #[.int .i64 0, .string ⟨#[]⟩] 23)).heap.size, 0, none⟩) c 16 abB.length 16 abB abB ((w2.alloc (.cells #[.int .i64 0, .string ⟨#[]⟩] 23)).alloc (.cells (abB.map (Value.int .u8)).toArray 5)) (hr2.below (((Below.refl _ _).alloc (Nat.le_refl _) _).alloc (by simp) _)) ((Blk.new _ _ _).rw8 abB_U8 (by unfold maxLen abB; simp)) rfl rfl
  rw [decide_eq_true rfl] at HS
  have b3 : Below w.heap.size w ((w2.alloc (.cells #[.int .i64 0, .string ⟨#[]⟩] 23)).alloc (.cells (abB.map (Value.int .u8)).toArray 5)) := (b2.alloc b2.size _).alloc (by simp; exact Nat.le_succ_of_le b2.size) _
  have hg : (w2.alloc (.cells #[.int .i64 0, .string ⟨#[]⟩] 23)).heap.size = w2.heap.size + 1 := by simp
  rw [hg] at HS
  refine HS.mono ?_
  rintro e W3 ⟨rfl, hw⟩
  rw [hw] at b3
  clear hw HS b2 hr2
  go_wp2_with fail
  refine (C3.out _).mono ?_
  rintro e w' ⟨rfl, rfl⟩
  go_wp2_with fail
  have HK := check_any (List.replicate 16 0) (some ⟨W3.heap.size, 0, none⟩) 16 16 (W3.alloc (.cells ((List.replicate 16 (0 : Int)).map (Value.int .u8)).toArray 5)) ((Blk.new _ _ _).rw8 (rep_U8 16) (by simp; unfold maxLen; omega)) (by simp) (Nat.le_refl _) (by omega) (by omega)
  rw [ck16] at HK
  have b4 : Below w.heap.size w (W3.alloc (.cells ((List.replicate 16 (0 : Int)).map (Value.int .u8)).toArray 5)) := b3.alloc b3.size _
  refine HK.mono ?_
  rintro e w5 ⟨rfl, hb5⟩
  have b5 := b4.trans (hb5.mono b4.size)
  clear b4 hb5 b3 HK
  go_wp2
  go_ret
  exact ⟨rfl, b5⟩
end Go.Proofs.Ytbgimehbencdgaa
