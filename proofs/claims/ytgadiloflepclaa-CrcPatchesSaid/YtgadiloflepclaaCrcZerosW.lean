/-
  What the calls Zeros, Join and Patch answer, and the statements on them.
-/
import Derived.Test.YtgadiloflepclaaCrcOverAll
import Derived.Laws.OwnMore
namespace Go.Proofs.Ytgadiloflepclaa
open Go.RowKit Crcm Go.ChangeShapes

/-- a sum with n bytes 0 behind -/
def zs (s : Int) (n : Nat) : Int := N (~~~ it (8 * n) (~~~ V s))
/-- no number of bytes that a sum is moved over -/
def Odd (n : Int) : Prop := n < 0 ∨ 1073741824 < n

set_option maxRecDepth 100000 in
theorem zeros_ok (s : Int) (n : Nat) (w : World) (hs : U32 s) (hn : n ≤ 1073741824) :
    Calls Try.prog 23 #[.int .u32 s, .int .i64 n] w fun e w' => e = .returned (.tuple #[.int .u32 (zs s n), .int .i64 0]) ∧ Below w.heap.size w w' := by
  have HO := Lib.hid (fun w => over_any (bits .xor .u32 IntKind.u32.max s) n w (U_not hs) hn)
  have h1 : decide ((1073741824 : Int) < (n : Int)) = false := by simp; omega
  clear hn
  go_enter Try.func23, Try.ntmps23
  go_wp2_with (go_at_call 52; refine (HO.out _).mono ?_; rintro e w' ⟨rfl, hb⟩)
  go_ret2
  exact ⟨by rw [not32 (U32_N _), V_N, V_not hs]; rfl, hb⟩

set_option maxRecDepth 100000 in
theorem zeros_odd (s n : Int) (w : World) (h : Odd n) :
    Calls Try.prog 23 #[.int .u32 s, .int .i64 n] w fun e w' => e = .returned (.tuple #[.int .u32 0, .int .i64 1]) ∧ w = w' := by
  by_cases h0 : n < 0
  · clear h
    go_enter Try.func23, Try.ntmps23
    go_wp2_with fail
    go_ret2
    exact ⟨rfl, rfl⟩
  · have h1 : 1073741824 < n := by rcases h with h | h <;> omega
    clear h
    go_enter Try.func23, Try.ntmps23
    go_wp2_with fail
    go_ret2
    exact ⟨rfl, rfl⟩

set_option maxRecDepth 100000 in
theorem refzeros_odd (s n : Int) (w : World) (h : Odd n) :
    Calls Try.prog 24 #[.int .u32 s, .int .i64 n] w fun e w' => e = .returned (.tuple #[.int .u32 0, .int .i64 1]) ∧ w = w' := by
  by_cases h0 : n < 0
  · clear h
    go_enter Try.func24, Try.ntmps24
    go_wp2_with fail
    go_ret2
    exact ⟨rfl, rfl⟩
  · have h1 : 1073741824 < n := by rcases h with h | h <;> omega
    clear h
    go_enter Try.func24, Try.ntmps24
    go_wp2_with fail
    go_ret2
    exact ⟨rfl, rfl⟩

theorem mo_zeros (s : Int) (n : Nat) : mo s (List.replicate n 0) = zs s n := by
  unfold mo zs
  rw [List.map_replicate, show V 0 = 0#32 from by decide, F_zeros]

theorem Try.info8z : (Try.prog.info? 5).map (fun i => (i.zero, i.size, i.bytes)) = some (some (.int .u8 0), 1, 1) := by kernel_rfl

theorem more_len {s : Int} {a : Option Addr} {cap len : Nat} {zs : List Int} {w : World} (hs : U32 s) (hr : Rw w a zs) (hl : zs.length = len) :
    Calls Try.prog 22 #[.int .u32 s, .slice a len cap] w fun e w' => e = .returned (.int .u32 (mo s zs)) ∧ w = w' := by
  subst hl
  exact refmore_any _ _ _ _ _ hs hr

theorem Rw.of_row {w : World} {base n : Nat} {v : Value} {zs : List Int} (h : w.ownsRow base 5 1 v n (zs.map (Value.int .u8))) (hz : ∀ m ∈ zs, U8 m) :
    ∃ a cap, v = .slice a n cap ∧ Rw w a zs ∧ zs.length = n := by
  obtain ⟨hl, h⟩ := h
  have hl' : zs.length = n := by simpa using hl
  rcases h with ⟨rfl, rfl⟩ | ⟨g, cap, cur, rfl, _, hg, hn, hm, _, ht⟩
  · exact ⟨none, 0, rfl, ⟨hz, by omega, .inl (List.eq_nil_of_length_eq_zero hl')⟩, hl'⟩
  · refine ⟨_, cap, rfl, ⟨hz, by omega, .inr ⟨g, 0, rfl, fun i hi => ?_⟩⟩, hl'⟩
    rw [Nat.zero_add, cell_of_row w g i cur _ _ hg]
    have h1 : (cur.toList.take (n * 1))[i]? = (zs.map (Value.int .u8))[i]? := by rw [ht]
    rw [List.getElem?_take, if_pos (by omega)] at h1
    rw [← Array.getElem?_toList, h1]
    simp [List.getD_eq_getElem?_getD, hi]

set_option maxRecDepth 100000 in
theorem refzeros_ok (s : Int) (n : Nat) (w : World) (hs : U32 s) (hn : n ≤ 3000) :
    Calls Try.prog 24 #[.int .u32 s, .int .i64 n] w fun e w' => e = .returned (.tuple #[.int .u32 (zs s n), .int .i64 0]) ∧ Below w.heap.size w w' := by
  obtain ⟨i0, hi, hz0, hz1, hz2⟩ := info_parts Try.info8z
  go_enter Try.func24, Try.ntmps24
  go_wp2_with (at_make; refine wpList_make_full _ rfl _ _ 26 rfl w.heap.size 5 i0 (.int .u8 0) 1 Try.underlying26 hi hz0 hz1 _ _ _ _ n rfl rfl rfl rfl ?c1 ?c2 ?c3 ?_)
  case c1 => rw [hz2]; omega
  case c2 => unfold maxLen; omega
  case c3 => exact Nat.le_refl _
  intro w1 hown hgrow
  have hb1 : Below w.heap.size w w1 := (Below.refl _ _).grown hgrow (Nat.le_refl _) (fun g hg => by cases hg)
  rw [toList_madeCells_one] at hown
  have e0 : List.replicate n (Value.int .u8 0) = (List.replicate n (0 : Int)).map (Value.int .u8) := by rw [List.map_replicate]
  rw [e0] at hown
  obtain ⟨a4, cap4, ev, hr4, hl4⟩ := Rw.of_row hown (by intro m hm; rw [List.mem_replicate] at hm; rw [hm.2]; exact ⟨by decide, by decide⟩)
  obtain ⟨rfl, -, rfl⟩ : some (⟨w.heap.size, 0, none⟩ : Addr) = a4 ∧ True ∧ n = cap4 := by
    injection ev with e1 e2 e3; exact ⟨e1, trivial, e3⟩
  have HL := Lib.hid hl4
  clear hown e0 hgrow ev hl4
  go_wp2_with fail
  refine (more_len hs hr4 HL.out).mono ?_
  rintro e w' ⟨rfl, rfl⟩
  go_wp2_with fail
  go_ret2
  exact ⟨by rw [mo_zeros]; rfl, hb1⟩

set_option maxRecDepth 100000 in
set_option maxHeartbeats 400000 in
theorem crcZeros_walk (a0 : Int) (a1 : Int) (w0 : (Lit.int .u32 a0).wf = true) (_w1 : (Lit.int .i64 a1).wf = true) (w : World) :
    Calls Try.prog 5 #[.int .u32 a0, .int .i64 a1] w fun e w' => e = .returned (.bool true) ∧ Below w.heap.size w w' := by
  have hs := U32_wf w0
  clear w0 _w1
  by_cases ho : Odd a1
  · have hz := Lib.hid (fun w => zeros_odd a0 a1 w ho)
    have hr := Lib.hid (fun w => refzeros_odd a0 a1 w ho)
    by_cases h0 : a1 < 0
    · clear ho
      go_enter Try.func5, Try.ntmps5
      go_wp2_with (first | (go_at_call 23; refine (hz.out _).mono ?_; rintro e w' ⟨rfl, rfl⟩) | (go_at_call 24; refine (hr.out _).mono ?_; rintro e w' ⟨rfl, rfl⟩) | (go_at_call 17; refine (known_any _).mono ?_; rintro e w' ⟨rfl, hb⟩))
      go_ret
      exact ⟨rfl, hb⟩
    · have h1 : 1073741824 < a1 := by rcases ho with h | h <;> omega
      clear ho
      go_enter Try.func5, Try.ntmps5
      go_wp2_with (first | (go_at_call 23; refine (hz.out _).mono ?_; rintro e w' ⟨rfl, rfl⟩) | (go_at_call 24; refine (hr.out _).mono ?_; rintro e w' ⟨rfl, rfl⟩) | (go_at_call 17; refine (known_any _).mono ?_; rintro e w' ⟨rfl, hb⟩))
      go_ret
      exact ⟨rfl, hb⟩
  · have g0 : 0 ≤ a1 := by unfold Odd at ho; omega
    have g1 : a1 ≤ 1073741824 := by unfold Odd at ho; omega
    clear ho
    by_cases hl : 3000 < a1
    · go_enter Try.func5, Try.ntmps5
      go_wp2_with (first | (go_at_call 17; refine (known_any _).mono ?_; rintro e w' ⟨rfl, hb⟩))
      go_ret
      exact ⟨rfl, hb⟩
    · obtain ⟨n, rfl⟩ : ∃ n : Nat, a1 = n := ⟨a1.toNat, by omega⟩
      have hz := Lib.hid (fun w => zeros_ok a0 n w hs (by omega))
      have hr := Lib.hid (fun w => refzeros_ok a0 n w hs (by omega))
      clear g0 g1
      go_enter Try.func5, Try.ntmps5
      go_wp2_with fail
      refine (hz.out _).mono ?_
      rintro e w1 ⟨rfl, hb1⟩
      go_wp2_with fail
      refine (hr.out _).mono ?_
      rintro e w2 ⟨rfl, hb2⟩
      go_wp2_with fail
      refine (known_any _).mono ?_
      rintro e w3 ⟨rfl, hb3⟩
      go_wp2
      go_ret
      exact ⟨rfl, (hb1.trans (hb2.mono hb1.size)).trans (hb3.mono (Nat.le_trans hb1.size hb2.size))⟩

end Go.Proofs.Ytgadiloflepclaa
