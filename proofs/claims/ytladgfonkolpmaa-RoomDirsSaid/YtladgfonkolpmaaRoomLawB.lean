/-
  The statements that files and directories take what the document says, that directories take no less with more slots, and that all room is shared out.
-/
import Derived.Test.YtladgfonkolpmaaRoomKnown
namespace Roomm
open Crcm Tagm Inom
theorem dpg_mono {s k m : Int} (hs : Sz s) (hm : 0 ≤ m) : dpg s k ≤ dpg s (k + m) := by
  unfold dpg
  rcases hs with rfl | rfl | rfl | rfl <;> simp only [Int.reduceDiv] <;> (split <;> split <;> omega)
theorem dpg_nonneg {s k : Int} (hs : Sz s) (h0 : 0 ≤ k) : 0 ≤ dpg s k := by
  unfold dpg
  rcases hs with rfl | rfl | rfl | rfl <;> simp only [Int.reduceDiv] <;> (split <;> omega)
theorem dE_mono {s k m : Int} (h0 : 0 ≤ k) (hm : 0 ≤ m) (h : dE s k ≠ 0) : dE s (k + m) ≠ 0 := by
  by_cases hs : Sz s
  · by_cases hb : pgs s < dpg s k
    · have := dpg_mono (k := k) hs hm
      rw [dE_bad ⟨hs, by omega⟩ (by omega)]; decide
    · exact absurd (dE_ok ⟨hs, h0⟩ hb) h
  · rw [dE_no (fun g => hs g.1)]; decide
theorem dE_zero {s k : Int} (h : dE s k = 0) : Sz s ∧ 0 ≤ k ∧ dpg s k ≤ pgs s := by
  by_cases g : Sz s ∧ 0 ≤ k
  · by_cases hb : pgs s < dpg s k
    · rw [dE_bad g hb] at h; omega
    · exact ⟨g.1, g.2, by omega⟩
  · rw [dE_no g] at h; omega
theorem dN_mono {s k m : Int} (hm : 0 ≤ m) (h1 : dE s k = 0) (h2 : dE s (k + m) = 0) : dN s k ≤ dN s (k + m) := by
  obtain ⟨hs, h0, hp⟩ := dE_zero h1
  obtain ⟨-, -, hp2⟩ := dE_zero h2
  have hd := dpg_mono (k := k) hs hm
  have e1 := fE_iff.1 (fE_upto hs hp)
  have e2 := fE_iff.1 (fE_upto hs hp2)
  rw [dN_ok h1, dN_ok h2, fN_ok e1.1 e1.2, fN_ok e2.1 e2.2]
  have := cnt_mono (s := s) e1.1.2 (m := upto 0 (dpg s (k + m))) (fun x hx => mem_upto.2 (by have := mem_upto.1 hx; omega))
  omega
theorem dN_ge {s k : Int} (h1 : dE s k = 0) : dpg s k ≤ dN s k := by
  obtain ⟨hs, h0, hp⟩ := dE_zero h1
  have e1 := fE_iff.1 (fE_upto hs hp)
  rw [dN_ok h1, fN_ok e1.1 e1.2]
  have h2 : (upto 0 (dpg s k)).length = (dpg s k).toNat := by rw [upto_length, Int.sub_zero]
  have := dpg_nonneg hs h0
  unfold cnt
  omega
theorem dN_le {s k : Int} (h1 : dE s k = 0) : dN s k ≤ 70000 := by
  obtain ⟨hs, h0, hp⟩ := dE_zero h1
  rw [dN_ok h1]
  have := fN_bound s (upto 0 (dpg s k))
  have h2 : (upto 0 (dpg s k)).length = (dpg s k).toNat := by rw [upto_length, Int.sub_zero]
  have h3 : pgs s ≤ 65798 := by rcases hs with rfl | rfl | rfl | rfl <;> decide
  omega
end Roomm
namespace Go.Proofs.Ytladgfonkolpmaa
open Go.RowKit Crcm Tagm Inom Roomm Go.ChangeShapes

set_option maxRecDepth 100000 in
set_option maxHeartbeats 4000000 in
theorem roomFiles_walk (s : Int) (a : Option Addr) (n c : Nat) (zs : List Int) (k : Int) (w : World) (_w0 : (Lit.int .i64 s).wf = true) (w1 : RowI w a n c zs) (w2 : (Lit.int .i64 k).wf = true) :
    Calls Try.prog 5 #[.int .i64 s, .slice a n c, .int .i64 k] w fun e w' => e = .returned (.bool true) ∧ Below w.heap.size w w' := by
  obtain ⟨l, hl, -, hr, -⟩ := w1.ri
  have hk := I64_wf w2
  clear w1 w2 _w0
  have hm1 := hr.2.1
  unfold maxLen at hm1
  have n1 : n ≤ 9223372036854775807 := by omega
  clear hm1
  by_cases h : 300 < n
  · clear hr hk hl
    go_enter Try.func5, Try.ntmps5
    go_wp2_with fail
    refine (rknown_any _).mono ?_
    rintro e w4 ⟨rfl, hb4⟩
    go_wp2
    go_ret
    exact ⟨rfl, hb4⟩
  · have C3 := Lib.hid (fun w => dir_any s k w hk.2)
    have C4 := Lib.hid (fun w => refdir_any s k w hk.2)
    by_cases h2 : 5000 < k ∧ k < 1099511627776
    · obtain ⟨h2, h3⟩ := h2
      clear hr hk hl
      go_enter Try.func5, Try.ntmps5
      go_wp2_with fail
      refine (rknown_any _).mono ?_
      rintro e w4 ⟨rfl, hb4⟩
      go_wp2
      go_ret
      exact ⟨rfl, hb4⟩
    · have C1 := Lib.hid (fun W (hb : Below w.heap.size w W) => file_any s l a c n W (hr.below hb) hl (by omega))
      have C2 := Lib.hid (fun W (hb : Below w.heap.size w W) => reffile_any s l a c n W (hr.below hb) hl (by omega))
      generalize fN s l = q1 at C1 C2
      generalize fE s l = q2 at C1 C2
      generalize dN s k = q3 at C3 C4
      generalize dE s k = q4 at C3 C4
      have h3 : k ≤ 5000 ∨ (5000 < k ∧ 1099511627776 ≤ k) := by omega
      clear hr hk hl h2
      rcases h3 with h3 | ⟨h3, h4⟩
      all_goals
        go_enter Try.func5, Try.ntmps5
        go_wp2_with fail
        refine (C1.out _ (Below.refl _ _)).mono ?_
        rintro e wa ⟨rfl, hb⟩
        have B1 := Lib.hid hb
        clear hb C1
        go_wp2_with fail
        refine (C2.out _ B1.out).mono ?_
        rintro e wb ⟨rfl, hb⟩
        have B2 := Lib.hid (B1.out.trans (hb.mono B1.out.size))
        clear hb C2 B1
        go_wp2_with fail
        refine (C3.out _).mono ?_
        rintro e wc ⟨rfl, hb⟩
        have B3 := Lib.hid (B2.out.trans (hb.mono B2.out.size))
        clear hb C3 B2
        go_wp2_with fail
        refine (C4.out _).mono ?_
        rintro e wd ⟨rfl, hb⟩
        have B4 := Lib.hid (B3.out.trans (hb.mono B3.out.size))
        clear hb C4 B3
        go_wp2_with fail
        refine (rknown_any _).mono ?_
        rintro e we ⟨rfl, hb⟩
        go_wp2
        go_ret
        exact ⟨rfl, B4.out.trans (hb.mono B4.out.size)⟩

set_option maxRecDepth 100000 in
set_option maxHeartbeats 4000000 in
theorem roomDirs_walk (s k m : Int) (w : World) (_w0 : (Lit.int .i64 s).wf = true) (_w1 : (Lit.int .i64 k).wf = true) (_w2 : (Lit.int .i64 m).wf = true) :
    Calls Try.prog 8 #[.int .i64 s, .int .i64 k, .int .i64 m] w fun e w' => e = .returned (.bool true) ∧ Below w.heap.size w w' := by
  clear _w0 _w1 _w2
  by_cases h : (0 ≤ k ∧ k ≤ 3000) ∧ (0 ≤ m ∧ m ≤ 3000)
  · obtain ⟨⟨h0, h1⟩, h2, h3⟩ := h
    have C1 := Lib.hid (fun w => dir_any s k w (by omega))
    have C2 := Lib.hid (fun w => dir_any s (k + m) w (by omega))
    by_cases e1 : dE s k = 0
    · by_cases e2 : dE s (k + m) = 0
      · have hm := dN_mono h2 e1 e2
        have hg := dN_ge e1
        have hle := dN_le e1
        obtain ⟨hs, -, hp⟩ := dE_zero e1
        have hd : dpg s k = k / (s / 16) + if 0 < k % (s / 16) then 1 else 0 := rfl
        rw [e1] at C1
        rw [e2] at C2
        generalize dN s k = q1 at C1 hm hg hle
        generalize dN s (k + m) = q2 at C2 hm
        generalize dpg s k = q3 at hg hd hp
        clear e1 e2 hp
        rcases hs with rfl | rfl | rfl | rfl
        · simp only [Int.reduceDiv] at hd
          have hq0 : 0 ≤ q1 := by split at hd <;> omega
          have hq : 16 * k ≤ q1 * 64 := by split at hd <;> omega
          clear hd hg
          go_enter Try.func8, Try.ntmps8
          go_wp2_with fail
          refine (C1.out _).mono ?_
          rintro e wa ⟨rfl, hb⟩
          have B1 := Lib.hid hb
          clear hb C1
          go_wp2_with fail
          refine (C2.out _).mono ?_
          rintro e wb ⟨rfl, hb⟩
          have B2 := Lib.hid (B1.out.trans (hb.mono B1.out.size))
          clear hb C2 B1
          go_wp2_with fail
          refine (rknown_any _).mono ?_
          rintro e we ⟨rfl, hb⟩
          go_wp2
          go_ret
          exact ⟨rfl, B2.out.trans (hb.mono B2.out.size)⟩
        · simp only [Int.reduceDiv] at hd
          have hq0 : 0 ≤ q1 := by split at hd <;> omega
          have hq : 16 * k ≤ q1 * 128 := by split at hd <;> omega
          clear hd hg
          go_enter Try.func8, Try.ntmps8
          go_wp2_with fail
          refine (C1.out _).mono ?_
          rintro e wa ⟨rfl, hb⟩
          have B1 := Lib.hid hb
          clear hb C1
          go_wp2_with fail
          refine (C2.out _).mono ?_
          rintro e wb ⟨rfl, hb⟩
          have B2 := Lib.hid (B1.out.trans (hb.mono B1.out.size))
          clear hb C2 B1
          go_wp2_with fail
          refine (rknown_any _).mono ?_
          rintro e we ⟨rfl, hb⟩
          go_wp2
          go_ret
          exact ⟨rfl, B2.out.trans (hb.mono B2.out.size)⟩
        · simp only [Int.reduceDiv] at hd
          have hq0 : 0 ≤ q1 := by split at hd <;> omega
          have hq : 16 * k ≤ q1 * 256 := by split at hd <;> omega
          clear hd hg
          go_enter Try.func8, Try.ntmps8
          go_wp2_with fail
          refine (C1.out _).mono ?_
          rintro e wa ⟨rfl, hb⟩
          have B1 := Lib.hid hb
          clear hb C1
          go_wp2_with fail
          refine (C2.out _).mono ?_
          rintro e wb ⟨rfl, hb⟩
          have B2 := Lib.hid (B1.out.trans (hb.mono B1.out.size))
          clear hb C2 B1
          go_wp2_with fail
          refine (rknown_any _).mono ?_
          rintro e we ⟨rfl, hb⟩
          go_wp2
          go_ret
          exact ⟨rfl, B2.out.trans (hb.mono B2.out.size)⟩
        · simp only [Int.reduceDiv] at hd
          have hq0 : 0 ≤ q1 := by split at hd <;> omega
          have hq : 16 * k ≤ q1 * 512 := by split at hd <;> omega
          clear hd hg
          go_enter Try.func8, Try.ntmps8
          go_wp2_with fail
          refine (C1.out _).mono ?_
          rintro e wa ⟨rfl, hb⟩
          have B1 := Lib.hid hb
          clear hb C1
          go_wp2_with fail
          refine (C2.out _).mono ?_
          rintro e wb ⟨rfl, hb⟩
          have B2 := Lib.hid (B1.out.trans (hb.mono B1.out.size))
          clear hb C2 B1
          go_wp2_with fail
          refine (rknown_any _).mono ?_
          rintro e we ⟨rfl, hb⟩
          go_wp2
          go_ret
          exact ⟨rfl, B2.out.trans (hb.mono B2.out.size)⟩
      · rw [e1] at C1
        have t : ((dE s (k + m) : Int) != 0) = true := by simp [e2]
        generalize dE s (k + m) = f at C2 e2 t
        generalize dN s k = q1 at C1
        generalize dN s (k + m) = q2 at C2
        clear e1
        go_enter Try.func8, Try.ntmps8
        go_wp2_with fail
        refine (C1.out _).mono ?_
        rintro e wa ⟨rfl, hb⟩
        have B1 := Lib.hid hb
        clear hb C1
        go_wp2_with fail
        refine (C2.out _).mono ?_
        rintro e wb ⟨rfl, hb⟩
        have B2 := Lib.hid (B1.out.trans (hb.mono B1.out.size))
        clear hb C2 B1
        go_wp2_with fail
        refine (rknown_any _).mono ?_
        rintro e we ⟨rfl, hb⟩
        go_wp2
        go_ret
        exact ⟨rfl, B2.out.trans (hb.mono B2.out.size)⟩
    · have e2 := dE_mono h0 h2 e1
      have t1 : ((dE s k : Int) != 0) = true := by simp [e1]
      have t2 : ((dE s (k + m) : Int) != 0) = true := by simp [e2]
      have t3 : ((dE s k : Int) == 0) = false := by simp [e1]
      generalize dE s k = f1 at C1 e1 t1 t3
      generalize dE s (k + m) = f2 at C2 e2 t2
      generalize dN s k = q1 at C1
      generalize dN s (k + m) = q2 at C2
      go_enter Try.func8, Try.ntmps8
      go_wp2_with fail
      refine (C1.out _).mono ?_
      rintro e wa ⟨rfl, hb⟩
      have B1 := Lib.hid hb
      clear hb C1
      go_wp2_with fail
      refine (C2.out _).mono ?_
      rintro e wb ⟨rfl, hb⟩
      have B2 := Lib.hid (B1.out.trans (hb.mono B1.out.size))
      clear hb C2 B1
      go_wp2_with fail
      refine (rknown_any _).mono ?_
      rintro e we ⟨rfl, hb⟩
      go_wp2
      go_ret
      exact ⟨rfl, B2.out.trans (hb.mono B2.out.size)⟩
  · have h1 : k < 0 ∨ (0 ≤ k ∧ 3000 < k) ∨ (0 ≤ k ∧ k ≤ 3000 ∧ m < 0) ∨ (0 ≤ k ∧ k ≤ 3000 ∧ 0 ≤ m ∧ 3000 < m) := by omega
    clear h
    rcases h1 with h1 | ⟨h1, h2⟩ | ⟨h1, h2, h3⟩ | ⟨h1, h2, h3, h4⟩
    all_goals
      go_enter Try.func8, Try.ntmps8
      go_wp2_with fail
      refine (rknown_any _).mono ?_
      rintro e w4 ⟨rfl, hb4⟩
      go_wp2
      go_ret
      exact ⟨rfl, hb4⟩

end Go.Proofs.Ytladgfonkolpmaa
