/-
  The statements that rows are made greater and cut as the document says, that with more pages a file takes no less, and that all room is shared out.
-/
import Derived.Test.YtladgfonkolpmaaRoomKnown
namespace Roomm
open Crcm Tagm Inom
/-- more than the statements look at -/
def Wd (n : Nat) (fr to : Int) : Prop := 200 < n ∨ (0 ≤ fr ∧ to ≤ 131072 ∧ fr < to ∧ 300 < to - fr)
theorem ext_few {l : List Int} {n : Nat} {fr to : Int} (hl : l.length = n) (h : ¬ Wd n fr to) : n ≤ 200 ∧ (ext l fr to).length ≤ 500 := by
  unfold Wd at h
  refine ⟨by omega, ?_⟩
  by_cases g : 0 ≤ fr ∧ to ≤ 131072
  · rw [ext_yes g, List.length_append, upto_length]; omega
  · rw [ext_no g]; omega
theorem mE_ok {s : Int} {l : List Int} {fr to : Int} (h : mE s l fr to = 0) : fE s l = 0 ∧ fE s (srt (ext l fr to)) = 0 := by
  unfold mE at h
  split at h
  · exact ⟨by assumption, h⟩
  · exact absurd h (by assumption)
theorem mN_nonneg {s : Int} {l : List Int} {fr to : Int} (h : mE s l fr to = 0) : 0 ≤ mN s l fr to := by
  obtain ⟨h1, h2⟩ := mE_ok h
  have e1 := fE_iff.1 h1
  have e2 := fE_iff.1 h2
  unfold mN
  rw [if_pos h, fN_ok e1.1 e1.2, fN_ok e2.1 e2.2]
  have := cnt_mono (s := s) e1.1.2 (m := srt (ext l fr to)) (fun x hx => (srt_mem _ _).2 (by unfold ext; exact List.mem_append_left _ hx))
  omega
theorem mN_four {s : Int} {l : List Int} {o : Int} (h : mE s l o (o + 1) = 0) : mN s l o (o + 1) ≤ 4 := by
  obtain ⟨h1, h2⟩ := mE_ok h
  have e1 := fE_iff.1 h1
  have e2 := fE_iff.1 h2
  unfold mN
  rw [if_pos h, fN_ok e1.1 e1.2, fN_ok e2.1 e2.2]
  have := cnt_one (s := s) (l := l) (one := o) e2.1.2 (fun x hx => by
    have hx := (srt_mem _ _).1 hx
    unfold ext at hx
    rcases List.mem_append.1 hx with hx | hx
    · exact .inl hx
    · split at hx
      · have := mem_upto.1 hx; right; omega
      · cases hx)
  omega
theorem mN_bound {s : Int} {l : List Int} {fr to : Int} (h : (ext l fr to).length ≤ 600) (hl : l.length ≤ 200) : -1000 ≤ mN s l fr to ∧ mN s l fr to ≤ 1000 := by
  have h1 := fN_bound s l
  have h2 := fN_bound s (srt (ext l fr to))
  have h3 := srt_length_le (ext l fr to)
  unfold mN
  split <;> omega
theorem ext_one (l : List Int) (o : Int) : (ext l o (o + 1)).length ≤ l.length + 1 := by
  by_cases g : 0 ≤ o ∧ o + 1 ≤ 131072
  · rw [ext_yes g, List.length_append, upto_length]; omega
  · rw [ext_no g]; omega
end Roomm
namespace Go.Proofs.Ytladgfonkolpmaa
open Go.RowKit Crcm Tagm Inom Roomm Go.ChangeShapes

set_option maxRecDepth 100000 in
set_option maxHeartbeats 1000000 in
theorem wide_yes (a : Option Addr) (n c : Nat) (fr to : Int) (w : World) (_hf : I64 fr) (_ht : I64 to) (h : Wd n fr to) :
    Calls Try.prog 28 #[.slice a n c, .int .i64 fr, .int .i64 to] w fun e w' => e = .returned (.bool true) ∧ w = w' := by
  unfold Wd at h
  by_cases h0 : 200 < n
  · clear h
    go_enter Try.func28, Try.ntmps28
    go_wp2
    go_ret
    exact ⟨sbool' (by simp <;> omega), rfl⟩
  · obtain ⟨h1, h2, h3, h4⟩ := h.resolve_left h0
    clear h
    go_enter Try.func28, Try.ntmps28
    go_wp2
    go_ret
    exact ⟨sbool' (by simp <;> omega), rfl⟩

set_option maxRecDepth 100000 in
set_option maxHeartbeats 1000000 in
theorem wide_no (a : Option Addr) (n c : Nat) (fr to : Int) (w : World) (hf : I64 fr) (ht : I64 to) (h : ¬ Wd n fr to) :
    Calls Try.prog 28 #[.slice a n c, .int .i64 fr, .int .i64 to] w fun e w' => e = .returned (.bool false) ∧ w = w' := by
  unfold Wd at h
  unfold I64 at hf ht
  have h0 : ¬ 200 < n := by omega
  have h1 : fr < 0 ∨ (0 ≤ fr ∧ 131072 < to) ∨ (0 ≤ fr ∧ to ≤ 131072 ∧ to ≤ fr) ∨ (0 ≤ fr ∧ to ≤ 131072 ∧ fr < to ∧ to - fr ≤ 300) := by omega
  have n0 : ¬ (200 : Int) < (n : Int) := by omega
  clear h
  rcases h1 with h1 | ⟨h1, h2⟩ | ⟨h1, h2, h3⟩ | ⟨h1, h2, h3, h4⟩
  all_goals
    go_enter Try.func28, Try.ntmps28
    go_wp2
    go_ret
    exact ⟨sbool' (by simp <;> omega), rfl⟩

set_option maxRecDepth 100000 in
set_option maxHeartbeats 4000000 in
theorem roomRows_walk (s : Int) (a : Option Addr) (n c : Nat) (zs : List Int) (fr to m : Int) (w : World) (_w0 : (Lit.int .i64 s).wf = true) (w1 : RowI w a n c zs) (w2 : (Lit.int .i64 fr).wf = true) (w3 : (Lit.int .i64 to).wf = true) (_w4 : (Lit.int .i64 m).wf = true) :
    Calls Try.prog 6 #[.int .i64 s, .slice a n c, .int .i64 fr, .int .i64 to, .int .i64 m] w fun e w' => e = .returned (.bool true) ∧ Below w.heap.size w w' := by
  obtain ⟨l, hl, -, hr, hA⟩ := w1.ri
  have hA0 : a = none → c = 0 := fun e => (hA e).2
  have hf := I64_wf w2
  have ht := I64_wf w3
  clear w1 w2 w3 _w0 _w4 hA
  by_cases h : Wd n fr to
  · have HW := Lib.hid (fun w => wide_yes a n c fr to w hf ht h)
    clear hr hf ht hl h hA0
    go_enter Try.func6, Try.ntmps6
    go_wp2_with fail
    refine (HW.out _).mono ?_
    rintro e w' ⟨rfl, rfl⟩
    go_wp2_with fail
    refine (rknown_any _).mono ?_
    rintro e w4 ⟨rfl, hb4⟩
    go_wp2
    go_ret
    exact ⟨rfl, hb4⟩
  · have HW := Lib.hid (fun w => wide_no a n c fr to w hf ht h)
    obtain ⟨hn, hx⟩ := ext_few hl h
    have C1 := Lib.hid (fun W (hb : Below w.heap.size w W) => more_any' s l a c n fr to W (hr.below hb) hA0 hl (by omega) (by omega) hf ht)
    have C2 := Lib.hid (fun W (hb : Below w.heap.size w W) => refmore_any' s l a c n fr to W (hr.below hb) hA0 hl (by omega) (by omega) hf ht)
    have C3 := Lib.hid (fun W (hb : Below w.heap.size w W) => with_any l a c n fr to W (hr.below hb) hl (by omega) hf ht)
    have C4 := Lib.hid (fun W (hb : Below w.heap.size w W) => refwith_any l a c n fr to W (hr.below hb) hl (by omega) hA0 hf ht)
    have C5 := Lib.hid (fun W (hb : Below w.heap.size w W) => cut_any l a c n m W (hr.below hb) hl (by omega))
    have C6 := Lib.hid (fun W (hb : Below w.heap.size w W) => refcut_any l a c n m W (hr.below hb) hl (by omega))
    generalize mN s l fr to = q1 at C1 C2
    generalize mE s l fr to = q2 at C1 C2
    generalize srt (ext l fr to) = r1 at C3 C4
    generalize l.filter (fun x => decide (x < m)) = r2 at C5 C6
    clear hr hf ht hl h hA0 hn hx
    go_enter Try.func6, Try.ntmps6
    go_wp2_with fail
    refine (HW.out _).mono ?_
    rintro e w' ⟨rfl, rfl⟩
    go_wp2_with fail
    refine (C1.out _ (Below.refl _ _)).mono ?_
    rintro e wa ⟨rfl, hb⟩
    have B1 := Lib.hid hb
    clear hb C1
    go_wp2_with fail
    refine (C2.out _ B1.out).mono ?_
    rintro e wb ⟨rfl, hb⟩
    have B2 := Lib.hid (B1.out.trans (hb.mono B1.out.size))
    clear hb C2 B1
    go_wp2_with fail
    refine (C3.out _ B2.out).mono ?_
    rintro e wc ⟨A1, c1, rfl, -, hr1, hb⟩
    have B3 := Lib.hid (B2.out.trans (hb.mono B2.out.size))
    have R1 := Lib.hid hr1
    clear hb C3 B2 hr1
    go_wp2_with fail
    refine (C4.out _ B3.out).mono ?_
    rintro e wd ⟨A2, c2, rfl, -, hr2, hb⟩
    have B4 := Lib.hid (B3.out.trans (hb.mono B3.out.size))
    have HS := sameI_any r1 r1 A1 A2 c1 c2 r1.length r1.length wd (R1.out.below hb) hr2 rfl rfl
    rw [decide_eq_true rfl] at HS
    have HSm := Lib.hid HS
    clear hb C4 B3 hr2 HS R1
    go_wp2_with fail
    refine HSm.out.mono ?_
    rintro e we ⟨rfl, hb⟩
    have B5 := Lib.hid (B4.out.trans (hb.mono B4.out.size))
    clear hb HSm B4
    go_wp2_with fail
    refine (C5.out _ B5.out).mono ?_
    rintro e wf ⟨A3, c3, rfl, -, hr1, hb⟩
    have B6 := Lib.hid (B5.out.trans (hb.mono B5.out.size))
    have R1 := Lib.hid hr1
    clear hb C5 B5 hr1
    go_wp2_with fail
    refine (C6.out _ B6.out).mono ?_
    rintro e wg ⟨A4, c4, rfl, -, hr2, hb⟩
    have B7 := Lib.hid (B6.out.trans (hb.mono B6.out.size))
    have HS := sameI_any r2 r2 A3 A4 c3 c4 r2.length r2.length wg (R1.out.below hb) hr2 rfl rfl
    rw [decide_eq_true rfl] at HS
    have HSm := Lib.hid HS
    clear hb C6 B6 hr2 HS R1
    go_wp2_with fail
    refine HSm.out.mono ?_
    rintro e wh ⟨rfl, hb⟩
    have B8 := Lib.hid (B7.out.trans (hb.mono B7.out.size))
    clear hb HSm B7
    go_wp2_with fail
    refine (rknown_any _).mono ?_
    rintro e wi ⟨rfl, hb⟩
    go_wp2
    go_ret
    exact ⟨rfl, B8.out.trans (hb.mono B8.out.size)⟩

set_option maxRecDepth 100000 in
set_option maxHeartbeats 4000000 in
theorem roomGrows_walk (s : Int) (a : Option Addr) (n c : Nat) (zs : List Int) (fr to o : Int) (w : World) (_w0 : (Lit.int .i64 s).wf = true) (w1 : RowI w a n c zs) (w2 : (Lit.int .i64 fr).wf = true) (w3 : (Lit.int .i64 to).wf = true) (_w4 : (Lit.int .i64 o).wf = true) :
    Calls Try.prog 7 #[.int .i64 s, .slice a n c, .int .i64 fr, .int .i64 to, .int .i64 o] w fun e w' => e = .returned (.bool true) ∧ Below w.heap.size w w' := by
  obtain ⟨l, hl, -, hr, hA⟩ := w1.ri
  have hA0 : a = none → c = 0 := fun e => (hA e).2
  have hf := I64_wf w2
  have ht := I64_wf w3
  clear w1 w2 w3 _w0 _w4 hA
  by_cases h : Wd n fr to
  · have HW := Lib.hid (fun w => wide_yes a n c fr to w hf ht h)
    clear hr hf ht hl h hA0
    go_enter Try.func7, Try.ntmps7
    go_wp2_with fail
    refine (HW.out _).mono ?_
    rintro e w' ⟨rfl, rfl⟩
    go_wp2_with fail
    refine (rknown_any _).mono ?_
    rintro e w4 ⟨rfl, hb4⟩
    go_wp2
    go_ret
    exact ⟨rfl, hb4⟩
  · have HW := Lib.hid (fun w => wide_no a n c fr to w hf ht h)
    obtain ⟨hn, hx⟩ := ext_few hl h
    have C1 := Lib.hid (fun W (hb : Below w.heap.size w W) => more_any' s l a c n fr to W (hr.below hb) hA0 hl (by omega) (by omega) hf ht)
    have hq : mE s l fr to = 0 → 0 ≤ mN s l fr to := mN_nonneg
    generalize mN s l fr to = q1 at C1 hq
    generalize mE s l fr to = q2 at C1 hq
    by_cases ho : 0 ≤ o ∧ o ≤ 65536
    · obtain ⟨o0, o1⟩ := ho
      have hx1 := ext_one l o
      have C2 := Lib.hid (fun W (hb : Below w.heap.size w W) => more_any' s l a c n o (o + 1) W (hr.below hb) hA0 hl (by omega) (by omega) (by unfold I64; omega) (by unfold I64; omega))
      have g1 : mE s l o (o + 1) = 0 → 0 ≤ mN s l o (o + 1) := mN_nonneg
      have g2 : mE s l o (o + 1) = 0 → mN s l o (o + 1) ≤ 4 := mN_four
      generalize mN s l o (o + 1) = q3 at C2 g1 g2
      generalize mE s l o (o + 1) = q4 at C2 g1 g2
      clear hr hf ht hl h hA0 hn hx hx1
      by_cases e1 : q2 = 0
      · have h1 := hq e1
        subst e1
        by_cases e2 : q4 = 0
        · have h2 := g1 e2
          have h3 := g2 e2
          subst e2
          clear hq g1 g2
          go_enter Try.func7, Try.ntmps7
          go_wp2_with fail
          refine (HW.out _).mono ?_
          rintro e w' ⟨rfl, rfl⟩
          go_wp2_with fail
          refine (C1.out _ (Below.refl _ _)).mono ?_
          rintro e wa ⟨rfl, hb⟩
          have B1 := Lib.hid hb
          clear hb C1
          go_wp2_with fail
          refine (C2.out _ B1.out).mono ?_
          rintro e wb ⟨rfl, hb⟩
          have B2 := Lib.hid (B1.out.trans (hb.mono B1.out.size))
          clear hb C2 B1
          go_wp2_with fail
          refine (rknown_any _).mono ?_
          rintro e wi ⟨rfl, hb⟩
          go_wp2
          go_ret
          exact ⟨rfl, B2.out.trans (hb.mono B2.out.size)⟩
        · have t : ((q4 : Int) != 0) = true := by simp [e2]
          clear hq g1 g2
          go_enter Try.func7, Try.ntmps7
          go_wp2_with fail
          refine (HW.out _).mono ?_
          rintro e w' ⟨rfl, rfl⟩
          go_wp2_with fail
          refine (C1.out _ (Below.refl _ _)).mono ?_
          rintro e wa ⟨rfl, hb⟩
          have B1 := Lib.hid hb
          clear hb C1
          go_wp2_with fail
          refine (C2.out _ B1.out).mono ?_
          rintro e wb ⟨rfl, hb⟩
          have B2 := Lib.hid (B1.out.trans (hb.mono B1.out.size))
          clear hb C2 B1
          go_wp2_with fail
          refine (rknown_any _).mono ?_
          rintro e wi ⟨rfl, hb⟩
          go_wp2
          go_ret
          exact ⟨rfl, B2.out.trans (hb.mono B2.out.size)⟩
      · have t1 : ((q2 : Int) == 0) = false := by simp [e1]
        clear hq
        by_cases e2 : q4 = 0
        · have h2 := g1 e2
          have h3 := g2 e2
          subst e2
          clear g1 g2
          go_enter Try.func7, Try.ntmps7
          go_wp2_with fail
          refine (HW.out _).mono ?_
          rintro e w' ⟨rfl, rfl⟩
          go_wp2_with fail
          refine (C1.out _ (Below.refl _ _)).mono ?_
          rintro e wa ⟨rfl, hb⟩
          have B1 := Lib.hid hb
          clear hb C1
          go_wp2_with fail
          refine (C2.out _ B1.out).mono ?_
          rintro e wb ⟨rfl, hb⟩
          have B2 := Lib.hid (B1.out.trans (hb.mono B1.out.size))
          clear hb C2 B1
          go_wp2_with fail
          refine (rknown_any _).mono ?_
          rintro e wi ⟨rfl, hb⟩
          go_wp2
          go_ret
          exact ⟨rfl, B2.out.trans (hb.mono B2.out.size)⟩
        · have t : ((q4 : Int) != 0) = true := by simp [e2]
          clear g1 g2
          go_enter Try.func7, Try.ntmps7
          go_wp2_with fail
          refine (HW.out _).mono ?_
          rintro e w' ⟨rfl, rfl⟩
          go_wp2_with fail
          refine (C1.out _ (Below.refl _ _)).mono ?_
          rintro e wa ⟨rfl, hb⟩
          have B1 := Lib.hid hb
          clear hb C1
          go_wp2_with fail
          refine (C2.out _ B1.out).mono ?_
          rintro e wb ⟨rfl, hb⟩
          have B2 := Lib.hid (B1.out.trans (hb.mono B1.out.size))
          clear hb C2 B1
          go_wp2_with fail
          refine (rknown_any _).mono ?_
          rintro e wi ⟨rfl, hb⟩
          go_wp2
          go_ret
          exact ⟨rfl, B2.out.trans (hb.mono B2.out.size)⟩
    · have ho' : o < 0 ∨ (0 ≤ o ∧ 65536 < o) := by omega
      clear hr hf ht hl h hA0 hn hx ho
      have hq' : (q2 = 0 ∧ 0 ≤ q1) ∨ ((q2 : Int) == 0) = false := by
        by_cases e1 : q2 = 0
        · exact .inl ⟨e1, hq e1⟩
        · exact .inr (by simp [e1])
      clear hq
      rcases hq' with ⟨rfl, h1⟩ | t1 <;> rcases ho' with ho | ⟨ho, ho2⟩
      all_goals
        go_enter Try.func7, Try.ntmps7
        go_wp2_with fail
        refine (HW.out _).mono ?_
        rintro e w' ⟨rfl, rfl⟩
        go_wp2_with fail
        refine (C1.out _ (Below.refl _ _)).mono ?_
        rintro e wa ⟨rfl, hb⟩
        have B1 := Lib.hid hb
        clear hb C1
        go_wp2_with fail
        refine (rknown_any _).mono ?_
        rintro e wi ⟨rfl, hb⟩
        go_wp2
        go_ret
        exact ⟨rfl, B1.out.trans (hb.mono B1.out.size)⟩

theorem tb_mono {c k : Int} (hk : 0 ≤ k) : tb c ≤ tb (c + k) ∧ c - 64 - tb c ≤ c + k - 64 - tb (c + k) := by
  unfold tb
  split <;> split <;> omega
theorem tb_bounds {c : Int} (h : c ≤ 8192) : 2 ≤ tb c ∧ tb c ≤ 508 := by
  unfold tb
  split <;> omega

set_option maxRecDepth 100000 in
set_option maxHeartbeats 4000000 in
theorem roomShares_walk (s c m : Int) (w : World) (_w0 : (Lit.int .i64 s).wf = true) (_w1 : (Lit.int .i64 c).wf = true) (w2 : (Lit.int .i64 m).wf = true) :
    Calls Try.prog 9 #[.int .i64 s, .int .i64 c, .int .i64 m] w fun e w' => e = .returned (.bool true) ∧ Below w.heap.size w w' := by
  have hm := I64_wf w2
  obtain ⟨k, hk, hAm⟩ := among_int m 500 500 rfl hm.1 hm.2 (by omega) (by omega)
  have HA := Lib.hid hAm
  clear _w0 _w1 w2 hm hAm
  by_cases h : 0 ≤ c ∧ c ≤ 7000
  · obtain ⟨h0, h1⟩ := h
    have C1 := Lib.hid (fun w => plan_any s c w)
    by_cases he : plE s c = 0
    · have hs : Sz s ∧ ¬ c - 64 - tb c < 16 := by
        by_cases g : Sz s ∧ 0 ≤ c ∧ c ≤ 8192
        · refine ⟨g.1, fun g2 => ?_⟩
          rw [plE_full g g2] at he; omega
        · rw [plE_no g] at he; omega
      obtain ⟨hs, hf⟩ := hs
      obtain ⟨m1, m2⟩ := tb_mono (c := c) (k := k) (by omega)
      have he2 : plE s (c + k) = 0 := plE_ok ⟨hs, by omega, by omega⟩ (by omega)
      have C2 := Lib.hid (fun w => plan_any s (c + k) w)
      rw [plan_ok he, he] at C1
      rw [plan_ok he2, he2] at C2
      unfold ly at C1 C2
      obtain ⟨b1, b2⟩ := tb_bounds (c := c) (by omega)
      obtain ⟨b3, b4⟩ := tb_bounds (c := c + k) (by omega)
      generalize tb c = t1 at *
      generalize tb (c + k) = t2 at *
      clear he he2 hf
      have hk2 : (k : Int) < 500 := by omega
      rcases hs with rfl | rfl | rfl | rfl
      · have hp : t1 * 2 ≤ t2 * 2 := by omega
        have hp0 : 0 ≤ t1 * 2 := by omega
        have hp1 : t2 * 2 ≤ 10668 := by omega
        simp only [Int.reduceDiv] at C1 C2
        go_enter Try.func9, Try.ntmps9
        go_wp2_with fail
        refine (HA.out _).mono ?_
        rintro e w' ⟨rfl, rfl⟩
        go_wp2_with fail
        refine (C1.out _).mono ?_
        rintro e wa ⟨rfl, hb⟩
        have B1 : Hid (Below w.heap.size w (wa.alloc (.cells #[.int .i64 t1, .int .i64 (t1 + 1), .int .i64 (c - 64 - t1), .int .i64 (t1 * 2)] 41))) := Lib.hid (hb.alloc hb.size _)
        have K1 := Lib.hid (Blk.new wa 41 #[.int .i64 t1, .int .i64 (t1 + 1), .int .i64 (c - 64 - t1), .int .i64 (t1 * 2)])
        clear hb C1
        go_wp2_with fail
        refine (C2.out _).mono ?_
        rintro e wb ⟨rfl, hb⟩
        have B2 := Lib.hid (B1.out.trans (hb.mono B1.out.size))
        have B3 : Hid (Below w.heap.size w (wb.alloc (.cells #[.int .i64 t2, .int .i64 (t2 + 1), .int .i64 (c + k - 64 - t2), .int .i64 (t2 * 2)] 41))) := Lib.hid (B2.out.alloc B2.out.size _)
        have K2 := K1.out.below hb K1.out.lt
        have K3 := K2.alloc (.cells #[.int .i64 t2, .int .i64 (t2 + 1), .int .i64 (c + k - 64 - t2), .int .i64 (t2 * 2)] 41)
        have N3 := Blk.new wb 41 #[.int .i64 t2, .int .i64 (t2 + 1), .int .i64 (c + k - 64 - t2), .int .i64 (t2 * 2)]
        have c0 := K3.cell 0
        have c1 := K3.cell 1
        have c2 := K3.cell 2
        have c3 := K3.cell 3
        have b0 := K2.cell 0
        have b1' := K2.cell 1
        have b2' := K2.cell 2
        have b3' := K2.cell 3
        have d0 := N3.cell 0
        have d1 := N3.cell 1
        have d2 := N3.cell 2
        have d3 := N3.cell 3
        simp only [List.getElem?_toArray, List.getElem?_cons_zero, List.getElem?_cons_succ] at c0 c1 c2 c3 d0 d1 d2 d3 b0 b1' b2' b3'
        clear hb C2 K1 K2 K3 N3
        go_wp2_with fail
        refine (rknown_any _).mono ?_
        rintro e wi ⟨rfl, hb⟩
        go_wp2
        go_ret
        exact ⟨rfl, B3.out.trans (hb.mono B3.out.size)⟩
      · have hp : t1 * 5 ≤ t2 * 5 := by omega
        have hp0 : 0 ≤ t1 * 5 := by omega
        have hp1 : t2 * 5 ≤ 10668 := by omega
        simp only [Int.reduceDiv] at C1 C2
        go_enter Try.func9, Try.ntmps9
        go_wp2_with fail
        refine (HA.out _).mono ?_
        rintro e w' ⟨rfl, rfl⟩
        go_wp2_with fail
        refine (C1.out _).mono ?_
        rintro e wa ⟨rfl, hb⟩
        have B1 : Hid (Below w.heap.size w (wa.alloc (.cells #[.int .i64 t1, .int .i64 (t1 + 1), .int .i64 (c - 64 - t1), .int .i64 (t1 * 5)] 41))) := Lib.hid (hb.alloc hb.size _)
        have K1 := Lib.hid (Blk.new wa 41 #[.int .i64 t1, .int .i64 (t1 + 1), .int .i64 (c - 64 - t1), .int .i64 (t1 * 5)])
        clear hb C1
        go_wp2_with fail
        refine (C2.out _).mono ?_
        rintro e wb ⟨rfl, hb⟩
        have B2 := Lib.hid (B1.out.trans (hb.mono B1.out.size))
        have B3 : Hid (Below w.heap.size w (wb.alloc (.cells #[.int .i64 t2, .int .i64 (t2 + 1), .int .i64 (c + k - 64 - t2), .int .i64 (t2 * 5)] 41))) := Lib.hid (B2.out.alloc B2.out.size _)
        have K2 := K1.out.below hb K1.out.lt
        have K3 := K2.alloc (.cells #[.int .i64 t2, .int .i64 (t2 + 1), .int .i64 (c + k - 64 - t2), .int .i64 (t2 * 5)] 41)
        have N3 := Blk.new wb 41 #[.int .i64 t2, .int .i64 (t2 + 1), .int .i64 (c + k - 64 - t2), .int .i64 (t2 * 5)]
        have c0 := K3.cell 0
        have c1 := K3.cell 1
        have c2 := K3.cell 2
        have c3 := K3.cell 3
        have b0 := K2.cell 0
        have b1' := K2.cell 1
        have b2' := K2.cell 2
        have b3' := K2.cell 3
        have d0 := N3.cell 0
        have d1 := N3.cell 1
        have d2 := N3.cell 2
        have d3 := N3.cell 3
        simp only [List.getElem?_toArray, List.getElem?_cons_zero, List.getElem?_cons_succ] at c0 c1 c2 c3 d0 d1 d2 d3 b0 b1' b2' b3'
        clear hb C2 K1 K2 K3 N3
        go_wp2_with fail
        refine (rknown_any _).mono ?_
        rintro e wi ⟨rfl, hb⟩
        go_wp2
        go_ret
        exact ⟨rfl, B3.out.trans (hb.mono B3.out.size)⟩
      · have hp : t1 * 10 ≤ t2 * 10 := by omega
        have hp0 : 0 ≤ t1 * 10 := by omega
        have hp1 : t2 * 10 ≤ 10668 := by omega
        simp only [Int.reduceDiv] at C1 C2
        go_enter Try.func9, Try.ntmps9
        go_wp2_with fail
        refine (HA.out _).mono ?_
        rintro e w' ⟨rfl, rfl⟩
        go_wp2_with fail
        refine (C1.out _).mono ?_
        rintro e wa ⟨rfl, hb⟩
        have B1 : Hid (Below w.heap.size w (wa.alloc (.cells #[.int .i64 t1, .int .i64 (t1 + 1), .int .i64 (c - 64 - t1), .int .i64 (t1 * 10)] 41))) := Lib.hid (hb.alloc hb.size _)
        have K1 := Lib.hid (Blk.new wa 41 #[.int .i64 t1, .int .i64 (t1 + 1), .int .i64 (c - 64 - t1), .int .i64 (t1 * 10)])
        clear hb C1
        go_wp2_with fail
        refine (C2.out _).mono ?_
        rintro e wb ⟨rfl, hb⟩
        have B2 := Lib.hid (B1.out.trans (hb.mono B1.out.size))
        have B3 : Hid (Below w.heap.size w (wb.alloc (.cells #[.int .i64 t2, .int .i64 (t2 + 1), .int .i64 (c + k - 64 - t2), .int .i64 (t2 * 10)] 41))) := Lib.hid (B2.out.alloc B2.out.size _)
        have K2 := K1.out.below hb K1.out.lt
        have K3 := K2.alloc (.cells #[.int .i64 t2, .int .i64 (t2 + 1), .int .i64 (c + k - 64 - t2), .int .i64 (t2 * 10)] 41)
        have N3 := Blk.new wb 41 #[.int .i64 t2, .int .i64 (t2 + 1), .int .i64 (c + k - 64 - t2), .int .i64 (t2 * 10)]
        have c0 := K3.cell 0
        have c1 := K3.cell 1
        have c2 := K3.cell 2
        have c3 := K3.cell 3
        have b0 := K2.cell 0
        have b1' := K2.cell 1
        have b2' := K2.cell 2
        have b3' := K2.cell 3
        have d0 := N3.cell 0
        have d1 := N3.cell 1
        have d2 := N3.cell 2
        have d3 := N3.cell 3
        simp only [List.getElem?_toArray, List.getElem?_cons_zero, List.getElem?_cons_succ] at c0 c1 c2 c3 d0 d1 d2 d3 b0 b1' b2' b3'
        clear hb C2 K1 K2 K3 N3
        go_wp2_with fail
        refine (rknown_any _).mono ?_
        rintro e wi ⟨rfl, hb⟩
        go_wp2
        go_ret
        exact ⟨rfl, B3.out.trans (hb.mono B3.out.size)⟩
      · have hp : t1 * 21 ≤ t2 * 21 := by omega
        have hp0 : 0 ≤ t1 * 21 := by omega
        have hp1 : t2 * 21 ≤ 10668 := by omega
        simp only [Int.reduceDiv] at C1 C2
        go_enter Try.func9, Try.ntmps9
        go_wp2_with fail
        refine (HA.out _).mono ?_
        rintro e w' ⟨rfl, rfl⟩
        go_wp2_with fail
        refine (C1.out _).mono ?_
        rintro e wa ⟨rfl, hb⟩
        have B1 : Hid (Below w.heap.size w (wa.alloc (.cells #[.int .i64 t1, .int .i64 (t1 + 1), .int .i64 (c - 64 - t1), .int .i64 (t1 * 21)] 41))) := Lib.hid (hb.alloc hb.size _)
        have K1 := Lib.hid (Blk.new wa 41 #[.int .i64 t1, .int .i64 (t1 + 1), .int .i64 (c - 64 - t1), .int .i64 (t1 * 21)])
        clear hb C1
        go_wp2_with fail
        refine (C2.out _).mono ?_
        rintro e wb ⟨rfl, hb⟩
        have B2 := Lib.hid (B1.out.trans (hb.mono B1.out.size))
        have B3 : Hid (Below w.heap.size w (wb.alloc (.cells #[.int .i64 t2, .int .i64 (t2 + 1), .int .i64 (c + k - 64 - t2), .int .i64 (t2 * 21)] 41))) := Lib.hid (B2.out.alloc B2.out.size _)
        have K2 := K1.out.below hb K1.out.lt
        have K3 := K2.alloc (.cells #[.int .i64 t2, .int .i64 (t2 + 1), .int .i64 (c + k - 64 - t2), .int .i64 (t2 * 21)] 41)
        have N3 := Blk.new wb 41 #[.int .i64 t2, .int .i64 (t2 + 1), .int .i64 (c + k - 64 - t2), .int .i64 (t2 * 21)]
        have c0 := K3.cell 0
        have c1 := K3.cell 1
        have c2 := K3.cell 2
        have c3 := K3.cell 3
        have b0 := K2.cell 0
        have b1' := K2.cell 1
        have b2' := K2.cell 2
        have b3' := K2.cell 3
        have d0 := N3.cell 0
        have d1 := N3.cell 1
        have d2 := N3.cell 2
        have d3 := N3.cell 3
        simp only [List.getElem?_toArray, List.getElem?_cons_zero, List.getElem?_cons_succ] at c0 c1 c2 c3 d0 d1 d2 d3 b0 b1' b2' b3'
        clear hb C2 K1 K2 K3 N3
        go_wp2_with fail
        refine (rknown_any _).mono ?_
        rintro e wi ⟨rfl, hb⟩
        go_wp2
        go_ret
        exact ⟨rfl, B3.out.trans (hb.mono B3.out.size)⟩
    · have t : ((plE s c : Int) != 0) = true := by simp [he]
      rw [plan_bad he] at C1
      unfold ly at C1
      generalize plE s c = f at C1 he t
      go_enter Try.func9, Try.ntmps9
      go_wp2_with fail
      refine (HA.out _).mono ?_
      rintro e w' ⟨rfl, rfl⟩
      go_wp2_with fail
      refine (C1.out _).mono ?_
      rintro e wa ⟨rfl, hb⟩
      have B1 : Hid (Below w.heap.size w (wa.alloc (.cells #[.int .i64 0, .int .i64 0, .int .i64 0, .int .i64 0] 41))) := Lib.hid (hb.alloc hb.size _)
      have K1 := Blk.new wa 41 #[.int .i64 0, .int .i64 0, .int .i64 0, .int .i64 0]
      have c0 := K1.cell 0
      have c1 := K1.cell 1
      have c2 := K1.cell 2
      have c3 := K1.cell 3
      simp only [List.getElem?_toArray, List.getElem?_cons_zero, List.getElem?_cons_succ] at c0 c1 c2 c3
      clear hb C1 K1
      go_wp2_with fail
      refine (rknown_any _).mono ?_
      rintro e wi ⟨rfl, hb⟩
      go_wp2
      go_ret
      exact ⟨rfl, B1.out.trans (hb.mono B1.out.size)⟩
  · have h' : c < 0 ∨ (0 ≤ c ∧ 7000 < c) := by omega
    clear h
    rcases h' with h | ⟨h, h2⟩
    all_goals
      go_enter Try.func9, Try.ntmps9
      go_wp2_with fail
      refine (HA.out _).mono ?_
      rintro e w' ⟨rfl, rfl⟩
      go_wp2_with fail
      refine (rknown_any _).mono ?_
      rintro e w4 ⟨rfl, hb4⟩
      go_wp2
      go_ret
      exact ⟨rfl, hb4⟩

end Go.Proofs.Ytladgfonkolpmaa
