/-
  The statements on when nothing is to be done with blocks, and when one is forced.
-/
import Derived.Test.YtoakgogngcmneaaGcKnown
import Derived.Test.YtoakgogngcmneaaGcRef
namespace Gcm
/-- what is so where a block is forced -/
theorem nxt_force {l : List Bk} {p : Int} {room : Bool} (h : (nxt l p room).1 = 4) :
    Rt l p ∧ (∀ b ∈ l, may (least l) b = true → b.st ≠ 3 ∧ (room = true → b.st = 2 → ¬ b.lv < p)) ∧ ∃ q : Nat, q < l.length ∧ (nxt l p room).2 = q ∧ (l[q]!.st = 3 ∨ l[q]!.st = 2) := by
  by_cases hR : Rt l p
  · rw [nxt_look hR] at h ⊢
    refine ⟨hR, ?_⟩
    rcases look_cases room l (srs p (least l)) with ⟨e, _⟩ | ⟨i, hi, hn, hh, e⟩
    · rw [e] at h; cases h
    · rw [e] at h ⊢
      have hi6 : i < 6 := hi
      have hb : 0 ≤ best (srs p (least l))[i]!.fit (srs p (least l))[i]!.bt l l.length := by
        unfold hit at hh
        simp only [Bool.and_eq_true, decide_eq_true_eq] at hh
        exact hh.2
      have hf := best_fit _ _ l l.length hb
      have hlt := best_lt (srs p (least l))[i]!.fit (srs p (least l))[i]!.bt l l.length
      have i4 : i = 4 ∨ i = 5 := by
        match i, hi6 with
        | 0, _ => exact absurd (show (1 : Int) = 4 from h) (by decide)
        | 1, _ => exact absurd (show (2 : Int) = 4 from h) (by decide)
        | 2, _ => exact absurd (show (3 : Int) = 4 from h) (by decide)
        | 3, _ => exact absurd (show (2 : Int) = 4 from h) (by decide)
        | 4, _ => exact .inl rfl
        | 5, _ => exact .inr rfl
        | i + 6, h => omega
      refine ⟨fun b hb' hm => ?_, (best (srs p (least l))[i]!.fit (srs p (least l))[i]!.bt l l.length).toNat, by omega, by omega, ?_⟩
      · have g0 := no_hit (hn 0 (by omega)) b hb'
        have g1 := no_hit (hn 1 (by omega)) b hb'
        refine ⟨fun h3 => ?_, fun hr h2 hl => ?_⟩
        · have : eff room ⟨1, false, fun b => stale b && may (least l) b, lw⟩ b = true := by simp [eff, stale, h3, hm]
          exact absurd (this.symm.trans g0) (by decide)
        · have : eff room ⟨2, true, fun b => loose p b && may (least l) b, ll⟩ b = true := by simp [eff, loose, h2, hm, hr, hl]
          exact absurd (this.symm.trans g1) (by decide)
      · rcases i4 with rfl | rfl
        · left
          have : stale l[(best stale lw l l.length).toNat]! = true := hf
          simp only [stale, beq_iff_eq] at this
          exact this
        · right
          have : loose p l[(best (loose p) ll l l.length).toNat]! = true := hf
          simp only [loose, Bool.and_eq_true, beq_iff_eq] at this
          exact this.1
  · rw [nxt_no hR] at h; cases h

/-- what is so where nothing is to be done -/
theorem nxt_nothing {l : List Bk} {p : Int} {room : Bool} (hR : Rt l p) (h : (nxt l p room).1 = 0) (b : Bk) (hb : b ∈ l) :
    b.st ≠ 3 ∧ (b.st = 0 → b.wr ≠ least l) ∧ (b.st = 2 → room = true → b.wr ≠ least l ∧ ¬ b.lv < p) := by
  rw [nxt_look hR] at h
  rcases look_cases room l (srs p (least l)) with ⟨_, hn⟩ | ⟨i, hi, _, _, e⟩
  · have g2 := no_hit (hn ⟨3, false, fun b => empty b && atLeast (least l) b, lw⟩ (by simp [srs])) b hb
    have g3 := no_hit (hn ⟨2, true, fun b => full b && atLeast (least l) b, ll⟩ (by simp [srs])) b hb
    have g4 := no_hit (hn ⟨4, false, stale, lw⟩ (by simp [srs])) b hb
    have g5 := no_hit (hn ⟨4, true, loose p, ll⟩ (by simp [srs])) b hb
    refine ⟨fun h3 => ?_, fun h0 hw => ?_, fun h2 hr => ⟨fun hw => ?_, fun hl => ?_⟩⟩
    · have : eff room ⟨4, false, stale, lw⟩ b = true := by simp [eff, stale, h3]
      exact absurd (this.symm.trans g4) (by decide)
    · have : eff room ⟨3, false, fun b => empty b && atLeast (least l) b, lw⟩ b = true := by simp [eff, empty, atLeast, h0, hw]
      exact absurd (this.symm.trans g2) (by decide)
    · have : eff room ⟨2, true, fun b => full b && atLeast (least l) b, ll⟩ b = true := by simp [eff, full, atLeast, h2, hw, hr]
      exact absurd (this.symm.trans g3) (by decide)
    · have : eff room ⟨4, true, loose p, ll⟩ b = true := by simp [eff, loose, h2, hl, hr]
      exact absurd (this.symm.trans g5) (by decide)
  · rw [e] at h
    have hi6 : i < 6 := hi
    match i, hi6 with
    | 0, _ => exact absurd (show (1 : Int) = 0 from h) (by decide)
    | 1, _ => exact absurd (show (2 : Int) = 0 from h) (by decide)
    | 2, _ => exact absurd (show (3 : Int) = 0 from h) (by decide)
    | 3, _ => exact absurd (show (2 : Int) = 0 from h) (by decide)
    | 4, _ => exact absurd (show (4 : Int) = 0 from h) (by decide)
    | 5, _ => exact absurd (show (4 : Int) = 0 from h) (by decide)
    | i + 6, h => omega
end Gcm
namespace Go.Proofs.Ytoakgogngcmneaa
open Go.RowKit Gcm Go.ChangeShapes

set_option maxRecDepth 100000 in
set_option maxHeartbeats 1000000 in
theorem gcForce_walk (a : Option Addr) (n cap : Nat) (z : List Bk) (p : Int) (room : Bool) (w : World) (hz : RowG w a n cap z) (_hp : (Lit.int .i64 p).wf = true) :
    Calls Try.prog 13 #[.slice a n cap, .int .i64 p, .bool room] w fun e w' => e = .returned (.bool true) ∧ Below w.heap.size w w' := by
  obtain ⟨l, hl, -, hr⟩ := hz.rg
  have HLo := Lib.hid (fun w => long_any n a cap w)
  have HN := Lib.hid (next_any l a cap n p room w hr hl)
  have HM := Lib.hid (fun W (hb : Below w.heap.size w W) k => may_any l a cap n p k W (hr.below hb) hl)
  have HF := Lib.hid (fun h => nxt_force (l := l) (p := p) (room := room) h)
  have HR := Lib.hid hr
  have HL := Lib.hid hl
  clear hz _hp hr hl
  obtain ⟨⟨kd, bk⟩, hx⟩ : ∃ x, nxt l p room = x := ⟨_, rfl⟩
  rw [hx] at HN HF
  unfold av at HN
  dsimp only at HN HF
  clear hx
  by_cases hlong : 150 < n
  · have t0 : decide (150 < n) = true := decide_eq_true hlong
    rw [t0] at HLo
    clear hlong t0
    go_enter Try.func13, Try.ntmps13
    go_wp2_with fail
    refine (HLo.out _).mono ?_
    rintro e w' ⟨rfl, rfl⟩
    go_wp2_with fail
    refine (known_any _).mono ?_
    rintro e w' ⟨rfl, hb⟩
    go_wp2
    go_ret
    exact ⟨rfl, hb⟩
  have t0 : decide (150 < n) = false := decide_eq_false hlong
  rw [t0] at HLo
  have n1 : n ≤ 150 := by omega
  clear hlong t0
  by_cases h4 : kd = 4
  · subst h4
    obtain ⟨hRt, hall, q, hq, hbq, hst⟩ := HF.out rfl
    subst hbq
    have HRt := Lib.hid hRt
    have HA := Lib.hid hall
    have HST := Lib.hid hst
    have hqn : q < n := by rw [← HL.out]; exact hq
    clear hRt hall hst HF
    go_enter Try.func13, Try.ntmps13
    go_wp2_with fail
    refine (HLo.out _).mono ?_
    rintro e w' ⟨rfl, rfl⟩
    go_wp2_with fail
    refine HN.out.mono ?_
    rintro e w1 ⟨rfl, hb1⟩
    have HB1 := Lib.hid (hb1.trans (((Below.refl _ w1).alloc (Nat.le_refl _) (.cells #[.int .i64 4, .int .i64 q] 49)).mono hb1.size))
    have HBk := Lib.hid (Blk.new w1 49 #[.int .i64 4, .int .i64 q])
    clear hb1 HN HLo
    go_wp2_with fail
    go_loopw [8] (fun i wr => ∃ k : Nat, k ≤ n ∧ i = .int .i64 k ∧ Hid (Below w.heap.size w wr) ∧ Hid (Blk wr w1.heap.size 49 #[.int .i64 4, .int .i64 q])) (fun i _ => n - (intOf i).toNat)
    case atStart => exact ⟨0, by omega, rfl, HB1, HBk⟩
    case round =>
      obtain ⟨k, hk, rfl, hb, hbk⟩ := hrel
      by_cases hlt : k < n
      · have hkl : k < l.length := by rw [HL.out]; exact hlt
        have e1 := mayAt_in HRt.out hkl
        have hAk := HA.out _ (getB_mem l k hkl)
        have hmk := HM.out _ hb.out (k : Int)
        rw [e1] at hmk
        rcases HR.out.2.2 with rfl | ⟨b, off, rfl, hc⟩
        · simp at hkl
        have hck := at_below (hc k hkl) hb.out
        generalize l[k]! = y at hAk hmk hck
        obtain ⟨st, lv, wr', nx⟩ := y
        dsimp only at hAk
        generalize may (least l) ⟨st, lv, wr', nx⟩ = r at hAk hmk
        have HMk := Lib.hid hmk
        have HC := Lib.hid hck
        clear hck hmk e1 hkl hc
        cases r with
        | false =>
          clear hAk
          go_wp2_with fail
          refine HMk.out.mono ?_
          rintro e w2 ⟨rfl, hb2⟩
          have HB2 := Lib.hid (hb.out.trans (hb2.mono hb.out.size))
          have HK2 := Lib.hid (hbk.out.below hb2 hbk.out.lt)
          clear hb2
          go_wp2
          go_roundw
          case rel => exact ⟨k + 1, by omega, by go_num, HB2, HK2⟩
          case measure => simp [intOf]; omega
        | true =>
          obtain ⟨h3, h2⟩ := hAk rfl
          have t3 : (st == 3) = false := by simp [h3]
          have h2' : room = true → (st == 2) = true → decide (lv < p) = false := fun hr hs => decide_eq_false (by have := h2 hr (by simpa using hs); omega)
          clear h3 h2 hAk
          go_wp2_with fail
          refine HMk.out.mono ?_
          rintro e w2 ⟨rfl, hb2⟩
          have HB2 := Lib.hid (hb.out.trans (hb2.mono hb.out.size))
          have HK2 := Lib.hid (hbk.out.below hb2 hbk.out.lt)
          obtain ⟨c0, c1, c2, c3⟩ := at_below HC.out hb2
          dsimp only at c0 c1 c2 c3
          clear hb2 c2 c3
          cases room with
          | false =>
            clear h2'
            go_wp2
            go_roundw
            case rel => exact ⟨k + 1, by omega, by go_num, HB2, HK2⟩
            case measure => simp [intOf]; omega
          | true =>
            cases h22 : st == 2 with
            | false =>
              clear h2'
              go_wp2
              go_roundw
              case rel => exact ⟨k + 1, by omega, by go_num, HB2, HK2⟩
              case measure => simp [intOf]; omega
            | true =>
              have tl := h2' rfl h22
              clear h2'
              go_wp2
              go_roundw
              case rel => exact ⟨k + 1, by omega, by go_num, HB2, HK2⟩
              case measure => simp [intOf]; omega
      · have : k = n := by omega
        subst this
        rcases HR.out.2.2 with rfl | ⟨b, off, rfl, hc⟩
        · simp at hq
        obtain ⟨c0, c1, c2, c3⟩ := at_below (hc q hq) hb.out
        have hs := HST.out
        generalize l[q]! = y at hs c0 c1 c2 c3
        obtain ⟨st, lv, wr', nx⟩ := y
        dsimp only at hs c0 c1 c2 c3
        have d0 := hbk.out.cell 0
        have d1 := hbk.out.cell 1
        simp at d0 d1
        clear hc c1 c2 c3 hlt hk
        rcases hs with rfl | rfl
        all_goals
          go_wp2_with fail
          refine (known_any _).mono ?_
          rintro e w' ⟨rfl, hb3⟩
          go_wp2
          go_ret
          exact ⟨rfl, hb.out.trans (hb3.mono hb.out.size)⟩
  · have t4 : (kd != 4) = true := by simp [h4]
    clear h4 HF
    go_enter Try.func13, Try.ntmps13
    go_wp2_with fail
    refine (HLo.out _).mono ?_
    rintro e w' ⟨rfl, rfl⟩
    go_wp2_with fail
    refine HN.out.mono ?_
    rintro e w1 ⟨rfl, hb1⟩
    go_wp2_with fail
    refine (known_any _).mono ?_
    rintro e w' ⟨rfl, hb⟩
    go_wp2
    go_ret
    exact ⟨rfl, hb1.trans ((((Below.refl _ w1).alloc (Nat.le_refl _) _).trans (hb.mono (by simp))).mono hb1.size)⟩
end Go.Proofs.Ytoakgogngcmneaa
