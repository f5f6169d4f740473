/-
  The fixed calls of glob's laws.
-/
import Derived.Test.YtaielamimkigmaaGlobKnM
namespace Go.Proofs.Ytaielamimkigmaa
open Go.RowKit Go.ChangeShapes Globm Go.ChangeMaps

theorem gbonq {a b c : World} (h : Below a.heap.size a b) (k : Below b.heap.size b c) : Below a.heap.size a c := h.trans (k.mono h.size)
theorem Rs.lit (w : World) (l : List ByteArray) (h1 : ∀ s ∈ l, s.size ≤ maxLen) (h2 : l.length ≤ maxLen) : Rs (w.alloc (.cells (l.map Value.string).toArray 9)) (some ⟨w.heap.size, 0, none⟩) l := by
  refine ⟨h1, h2, .inr ⟨w.heap.size, 0, rfl, fun j hj => ?_⟩⟩
  rw [Nat.zero_add, (Blk.new w 9 (l.map Value.string).toArray).cell j]
  simp [hj]
/-- Match of a fixed row of names that has just been made -/
theorem match_lit (v : Value) (L l : List ByteArray) (n : Nat) (w : World) (hp : Pt w v L) (hL : L.length ≤ 100000) (hn : l.length = n) (h1 : ∀ s ∈ l, s.size ≤ 1000) (h2 : l.length ≤ 1000) (r : Bool) (hr : cv (L.map pk) l (fun _ => false) 0 0 = r) :
    Calls Try.prog 17 #[v, .slice (some ⟨w.heap.size, 0, none⟩) n n] (w.alloc (.cells (l.map Value.string).toArray 9)) fun e w' => e = .returned (.bool r) ∧ Below w.heap.size w w' := by
  have hB := (Below.refl _ w).alloc (Nat.le_refl _) (.cells (l.map Value.string).toArray 9)
  refine (match_any v L (some ⟨w.heap.size, 0, none⟩) n n l _ (hp.below hB) hL (Rs.lit w l (fun s hs => by have := h1 s hs; unfold maxLen; omega) (by unfold maxLen; omega)) hn (by omega) (fun x hx => by have := h1 x hx; omega)).mono ?_
  rintro e w' ⟨rfl, hb⟩
  exact ⟨by rw [hr], hB.trans (hb.mono hB.size)⟩

set_option maxRecDepth 100000 in
set_option maxHeartbeats 1000000 in
theorem gknown_any (w : World) : Calls Try.prog 9 #[] w fun e w' => e = .returned (.bool true) ∧ Below w.heap.size w w' := by
  have H1 := Lib.hid (fun w => new_any s1 w (by decide))
  have H2 := Lib.hid (fun w => new_any s2 w (by decide))
  have H3 := Lib.hid (fun w => new_any s3 w (by decide))
  rw [n1] at H1
  rw [n2] at H2
  rw [n3] at H3
  obtain ⟨L1, hL1⟩ : ∃ L, parts s1 = L := ⟨_, rfl⟩
  obtain ⟨L2, hL2⟩ : ∃ L, parts s2 = L := ⟨_, rfl⟩
  obtain ⟨q1, q2, q3⟩ := m1
  obtain ⟨r1, r2⟩ := m2
  obtain ⟨z1, z2⟩ := p1
  rw [hL1] at H1 q1 q2 q3 z1
  rw [hL2] at H2 r1 r2 z2
  have M1 := Lib.hid (fun v w (hp : Pt w v L1) => match_lit v L1 [⟨#[97]⟩, ⟨#[98, 120]⟩] 2 w hp (by omega) rfl (by decide) (by decide) _ q1)
  have M2 := Lib.hid (fun v w (hp : Pt w v L1) => match_lit v L1 [⟨#[97, 98, 99]⟩, ⟨#[100, 100]⟩] 2 w hp (by omega) rfl (by decide) (by decide) _ q2)
  have M3 := Lib.hid (fun v w (hp : Pt w v L1) => match_lit v L1 [⟨#[97]⟩, ⟨#[97, 49]⟩] 2 w hp (by omega) rfl (by decide) (by decide) _ q3)
  have M4 := Lib.hid (fun v w (hp : Pt w v L2) => match_lit v L2 [⟨#[120]⟩] 1 w hp (by omega) rfl (by decide) (by decide) _ r1)
  have M5 := Lib.hid (fun v w (hp : Pt w v L2) => match_lit v L2 [⟨#[97]⟩, ⟨#[98]⟩, ⟨#[120]⟩] 3 w hp (by omega) rfl (by decide) (by decide) _ r2)
  have MS := Lib.hid (fun v w (hp : Pt w v L1) => psize_any v L1 w hp)
  rw [z1] at MS
  simp only [List.map_cons, List.map_nil] at M1 M2 M3 M4 M5
  unfold s1 at H1
  unfold s2 at H2
  unfold s3 at H3
  clear hL1 hL2 q1 q2 q3 r1 r2 z1 z2
  go_enter Try.func9, Try.ntmps9
  go_wp2_with fail
  refine (H1.out _).mono ?_
  rintro e w1 ⟨⟨v1, rfl, hv1⟩, hb1⟩
  have P1 := Lib.hid (hv1.1 rfl)
  have B1 := Lib.hid hb1
  clear hv1 hb1 H1
  go_wp2_with fail
  refine (H2.out _).mono ?_
  rintro e w2 ⟨⟨v2, rfl, hv2⟩, hb2⟩
  have P2 := Lib.hid (hv2.1 rfl)
  have P1' := Lib.hid (P1.out.below hb2)
  have B2 := Lib.hid (gbonq B1.out hb2)
  clear hv2 hb2 P1 B1 H2
  go_wp2_with fail
  refine (H3.out _).mono ?_
  rintro e w3 ⟨⟨v3, rfl, hv3⟩, hb3⟩
  have Q1 := Lib.hid (P1'.out.below hb3)
  have Q2 := Lib.hid (P2.out.below hb3)
  have B3 := Lib.hid (gbonq B2.out hb3)
  clear hv3 hb3 P1' P2 B2 H3
  go_wp2_with fail
  refine (M1.out v1 _ Q1.out).mono ?_
  rintro e w4 ⟨rfl, hb4⟩
  have Q1a := Lib.hid (Q1.out.below hb4)
  have Q2a := Lib.hid (Q2.out.below hb4)
  have B4 := Lib.hid (gbonq B3.out hb4)
  clear hb4 Q1 Q2 B3 M1
  go_wp2_with fail
  refine (M2.out v1 _ Q1a.out).mono ?_
  rintro e w5 ⟨rfl, hb5⟩
  have Q1 := Lib.hid (Q1a.out.below hb5)
  have Q2 := Lib.hid (Q2a.out.below hb5)
  have B5 := Lib.hid (gbonq B4.out hb5)
  clear hb5 Q1a Q2a B4 M2
  go_wp2_with fail
  refine (M3.out v1 _ Q1.out).mono ?_
  rintro e w6 ⟨rfl, hb6⟩
  have Q1a := Lib.hid (Q1.out.below hb6)
  have Q2a := Lib.hid (Q2.out.below hb6)
  have B6 := Lib.hid (gbonq B5.out hb6)
  clear hb6 Q1 Q2 B5 M3
  go_wp2_with fail
  refine (M4.out v2 _ Q2a.out).mono ?_
  rintro e w7 ⟨rfl, hb7⟩
  have Q1 := Lib.hid (Q1a.out.below hb7)
  have Q2 := Lib.hid (Q2a.out.below hb7)
  have B7 := Lib.hid (gbonq B6.out hb7)
  clear hb7 Q1a Q2a B6 M4
  go_wp2_with fail
  refine (M5.out v2 _ Q2.out).mono ?_
  rintro e w8 ⟨rfl, hb8⟩
  have Q1a := Lib.hid (Q1.out.below hb8)
  have B8 := Lib.hid (gbonq B7.out hb8)
  clear hb8 Q1 Q2 B7 M5
  go_wp2_with fail
  refine (MS.out v1 _ Q1a.out).mono ?_
  rintro e w9 ⟨rfl, rfl⟩
  clear Q1a MS
  go_wp2
  go_ret
  exact ⟨rfl, B8.out⟩
end Go.Proofs.Ytaielamimkigmaa
