/-
  The statement on actions followed.
-/
import Derived.Test.YtoakgogngcmneaaGcFollow
import Derived.Test.YtoakgogngcmneaaGcKnown
namespace Go.Proofs.Ytoakgogngcmneaa
open Go.RowKit Gcm Go.ChangeShapes

set_option maxRecDepth 100000 in
set_option maxHeartbeats 1000000 in
/-- two rows that are alike -/
theorem same_any (l : List Bk) (a b : Option Addr) (c1 c2 n : Nat) (w : World) (ha : Rg w a l) (hb : Rg w b l) (hl : l.length = n) :
    Calls Try.prog 47 #[.slice a n c1, .slice b n c2] w fun e w' => e = .returned (.bool true) ∧ Below w.heap.size w w' := by
  have hm := ha.2.1
  unfold maxLen at hm
  have n1 : n ≤ 9223372036854775807 := by omega
  have HA := Lib.hid ha.2.2
  have HB := Lib.hid hb.2.2
  have HL := Lib.hid hl
  clear ha hb hl hm
  go_enter Try.func47, Try.ntmps47
  go_wp2_with fail
  go_loopw [5] (fun i wr => ∃ k : Nat, k ≤ n ∧ i = .int .i64 k ∧ Hid (Below w.heap.size w wr)) (fun i _ => n - (intOf i).toNat)
  case atStart => exact ⟨0, by omega, rfl, Lib.hid (Below.refl _ _)⟩
  case round =>
    obtain ⟨k, hk, rfl, hbel⟩ := hrel
    by_cases hlt : k < n
    · have hkl : k < l.length := by rw [HL.out]; exact hlt
      rcases HA.out with rfl | ⟨b1, o1, rfl, h1⟩
      · simp at hkl
      rcases HB.out with rfl | ⟨b2, o2, rfl, h2⟩
      · simp at hkl
      obtain ⟨c0, c1', c2', c3⟩ := at_below (h1 k hkl) hbel.out
      obtain ⟨d0, d1, d2, d3⟩ := at_below (h2 k hkl) hbel.out
      generalize l[k]! = y at c0 c1' c2' c3 d0 d1 d2 d3
      obtain ⟨st, lv, wr', nx⟩ := y
      dsimp only at c0 c1' c2' c3 d0 d1 d2 d3
      have e0 := fun m : Later wr => m.cell c0
      have e1 := fun m : Later wr => m.cell c1'
      have e2 := fun m : Later wr => m.cell c2'
      have e3 := fun m : Later wr => m.cell c3
      have f0 := fun m : Later wr => m.cell d0
      have f1 := fun m : Later wr => m.cell d1
      have f2 := fun m : Later wr => m.cell d2
      have f3 := fun m : Later wr => m.cell d3
      clear h1 h2 hkl c0 c1' c2' c3 d0 d1 d2 d3
      go_wp2_with fail
      refine wp_region_later (by kernel_rfl) (by kernel_rfl) ?_
      repeat (go_big_quiet_step (fail))
      refine wpQuiet_nil ?_
      rintro _ ⟨mm, rfl⟩
      go_wp2
      go_roundw
      case rel => exact ⟨k + 1, by omega, by go_num, Lib.hid (hbel.out.trans (mm.bel.mono hbel.out.size))⟩
      case measure => simp [intOf]; omega
    · have : k = n := by omega
      subst this
      go_wp2
      go_ret
      exact ⟨rfl, hbel.out⟩

theorem fol_length (l : List Bk) (q : Nat) : (fol l q).length = l.length := by simp [fol]
theorem fol_Bw {l : List Bk} {p : Int} (h : Rt l p) (q : Nat) (hq : q < l.length) (hb : ∀ x ∈ l, Bw x) : ∀ x ∈ fol l q, Bw x := by
  intro x hx
  rcases List.mem_or_eq_of_mem_set hx with g | rfl
  · exact hb x g
  · have := h.2 _ (getB_mem l q hq)
    unfold Rb at this
    unfold Bw I64
    dsimp only
    omega

set_option maxRecDepth 100000 in
set_option maxHeartbeats 1000000 in
theorem gcFollows_walk (a : Option Addr) (n cap : Nat) (z : List Bk) (p kd bk : Int) (w : World) (hz : RowG w a n cap z) (_hp : (Lit.int .i64 p).wf = true) (_hs : (Lit.int .i64 kd).wf = true) (_hk : (Lit.int .i64 bk).wf = true) :
    Calls Try.prog 10 #[.slice a n cap, .int .i64 p, .int .i64 kd, .int .i64 bk] w fun e w' => e = .returned (.bool true) ∧ Below w.heap.size w w' := by
  obtain ⟨l, hl, -, hr⟩ := hz.rg
  have HLo := Lib.hid (fun w => long_any n a cap w)
  clear hz _hp _hs _hk
  by_cases hlong : 150 < n
  · have t0 : decide (150 < n) = true := decide_eq_true hlong
    rw [t0] at HLo
    clear hlong t0 hr hl
    go_enter Try.func10, Try.ntmps10
    go_wp2_with fail
    refine (HLo.out _).mono ?_
    rintro e w' ⟨rfl, rfl⟩
    go_wp2_with fail
    refine (known_any _).mono ?_
    rintro e w' ⟨rfl, hb⟩
    go_wp2
    go_ret
    exact ⟨rfl, hb⟩
  have t0 : decide (150 < n) = false := decide_eq_false hlong
  rw [t0] at HLo
  have n1 : n ≤ 150 := by omega
  clear hlong t0
  by_cases hok : Ok l p kd bk
  · obtain ⟨q, rfl⟩ : ∃ q : Nat, bk = q := ⟨bk.toNat, by have := hok.2.2.1; omega⟩
    have hq : q < l.length := by have := hok.2.2.1; omega
    have A1 := Lib.hid (follow_yes l a cap n p kd q w hr hl (by omega) hok)
    have A2 := Lib.hid (fun W (hb : Below w.heap.size w W) => refFollow_yes l a cap n p kd q W (hr.below hb) hl (by omega) hok)
    have HBw := Lib.hid (fol_Bw hok.1 q hq hr.1)
    have HFl := Lib.hid (show (fol l q).length = n by rw [fol_length, hl])
    clear hok hr hl hq
    go_enter Try.func10, Try.ntmps10
    go_wp2_with fail
    refine (HLo.out _).mono ?_
    rintro e w' ⟨rfl, rfl⟩
    go_wp2_with fail
    refine A1.out.mono ?_
    rintro e w1 ⟨g1, c1, rfl, hg1, hc1, hO1, hb⟩
    have B1 := Lib.hid hb
    have O1 := Lib.hid hO1
    clear hb hO1 A1 HLo
    go_wp2_with fail
    refine (A2.out _ B1.out).mono ?_
    rintro e w2 ⟨g2, c2, rfl, hg2, hc2, hO2, hb⟩
    have B2 := Lib.hid (B1.out.trans (hb.mono B1.out.size))
    have O12 := Lib.hid (O1.out.below hb O1.out.lt)
    have O2 := Lib.hid hO2
    clear hb hO2 A2 O1
    have hmx : (fol l q).length ≤ maxLen := by rw [HFl.out]; unfold maxLen; omega
    have HSm := Lib.hid (same_any (fol l q) _ _ c1 c2 n w2 (O12.out.rg HBw.out hmx) (O2.out.rg HBw.out hmx) HFl.out)
    clear hmx
    go_wp2_with fail
    refine HSm.out.mono ?_
    rintro e w3 ⟨rfl, hb⟩
    have B3 := Lib.hid (B2.out.trans (hb.mono B2.out.size))
    clear hb
    go_wp2_with fail
    refine (known_any _).mono ?_
    rintro e w' ⟨rfl, hb⟩
    go_wp2
    go_ret
    exact ⟨rfl, B3.out.trans (hb.mono B3.out.size)⟩
  · have A1 := Lib.hid (follow_no l a cap n p kd bk w hr hl hok)
    have A2 := Lib.hid (fun W (hb : Below w.heap.size w W) => refFollow_no l a cap n p kd bk W (hr.below hb) hl hok)
    have HSm := Lib.hid (fun W => same_any [] none none 0 0 0 W Rg.nil Rg.nil rfl)
    clear hok hr hl
    go_enter Try.func10, Try.ntmps10
    go_wp2_with fail
    refine (HLo.out _).mono ?_
    rintro e w' ⟨rfl, rfl⟩
    go_wp2_with fail
    refine A1.out.mono ?_
    rintro e w1 ⟨rfl, hb⟩
    have B1 := Lib.hid hb
    clear hb A1 HLo
    go_wp2_with fail
    refine (A2.out _ B1.out).mono ?_
    rintro e w2 ⟨rfl, hb⟩
    have B2 := Lib.hid (B1.out.trans (hb.mono B1.out.size))
    clear hb A2
    go_wp2_with fail
    refine (HSm.out _).mono ?_
    rintro e w3 ⟨rfl, hb⟩
    have B3 := Lib.hid (B2.out.trans (hb.mono B2.out.size))
    clear hb
    go_wp2_with fail
    refine (known_any _).mono ?_
    rintro e w' ⟨rfl, hb⟩
    go_wp2
    go_ret
    exact ⟨rfl, B3.out.trans (hb.mono B3.out.size)⟩
end Go.Proofs.Ytoakgogngcmneaa
