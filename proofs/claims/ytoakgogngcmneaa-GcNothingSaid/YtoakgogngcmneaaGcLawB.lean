/-
  The statement on when nothing is to be done with blocks.
-/
import Derived.Test.YtoakgogngcmneaaGcLawA
namespace Go.Proofs.Ytoakgogngcmneaa
open Go.RowKit Gcm Go.ChangeShapes

/-- a field of an action -/
theorem field0 (a b : Int) (w : World) : Sem.run Try.prog (Instr.field 49 (.agg #[.int .i64 a, .int .i64 b]) 0) w = .ok (.int .i64 a) w := by
  unfold Instr.field
  go_simp
  rfl

set_option maxRecDepth 100000 in
set_option maxHeartbeats 1000000 in
theorem gcNothing_walk (a : Option Addr) (n cap : Nat) (z : List Bk) (p : Int) (room : Bool) (w : World) (hz : RowG w a n cap z) (_hp : (Lit.int .i64 p).wf = true) :
    Calls Try.prog 12 #[.slice a n cap, .int .i64 p, .bool room] w fun e w' => e = .returned (.bool true) ∧ Below w.heap.size w w' := by
  obtain ⟨l, hl, -, hr⟩ := hz.rg
  have HLo := Lib.hid (fun w => long_any n a cap w)
  have HN := Lib.hid (fun W (hb : Below w.heap.size w W) => next_any l a cap n p room W (hr.below hb) hl)
  have HRi := Lib.hid (right_any l a cap n p w hr hl)
  have HLe := Lib.hid (fun W (hb : Below w.heap.size w W) => refLeast_any l a cap n W (hr.below hb) hl)
  have HF := Lib.hid (fun hR h => nxt_nothing (l := l) (p := p) (room := room) hR h)
  have HR := Lib.hid hr
  have HL := Lib.hid hl
  clear hz _hp hr hl
  obtain ⟨⟨kd, bk⟩, hx⟩ : ∃ x, nxt l p room = x := ⟨_, rfl⟩
  rw [hx] at HN HF
  unfold av at HN
  have hfd := fun w => field0 kd bk w
  dsimp only at HN HF
  clear hx
  by_cases hlong : 150 < n
  · have t0 : decide (150 < n) = true := decide_eq_true hlong
    rw [t0] at HLo
    clear hlong t0
    go_enter Try.func12, Try.ntmps12
    go_wp2_with fail
    refine (HLo.out _).mono ?_
    rintro e w' ⟨rfl, rfl⟩
    go_wp2_with fail
    refine (known_any _).mono ?_
    rintro e w' ⟨rfl, hb⟩
    go_wp2
    go_ret
    exact ⟨rfl, hb⟩
  have t0 : decide (150 < n) = false := decide_eq_false hlong
  rw [t0] at HLo
  have n1 : n ≤ 150 := by omega
  clear hlong t0
  by_cases hRt : Rt l p
  · rw [decide_eq_true hRt] at HRi
    by_cases h0 : kd = 0
    · subst h0
      have HA := Lib.hid (HF.out hRt rfl)
      clear hRt HF
      go_enter Try.func12, Try.ntmps12
      go_wp2_with fail
      refine (HLo.out _).mono ?_
      rintro e w' ⟨rfl, rfl⟩
      go_wp2_with fail
      refine HRi.out.mono ?_
      rintro e w1 ⟨rfl, hb1⟩
      have HB1 := Lib.hid hb1
      clear hb1
      go_wp2_with fail
      refine (HN.out _ HB1.out).mono ?_
      rintro e w2 ⟨rfl, hb2⟩
      have HB2 := Lib.hid (HB1.out.trans (hb2.mono HB1.out.size))
      clear hb2 HN HRi HLo
      go_wp2_with fail
      go_loopw [7] (fun i wr => ∃ k : Nat, k ≤ n ∧ i = .int .i64 k ∧ Hid (Below w.heap.size w wr)) (fun i _ => n - (intOf i).toNat)
      case atStart => exact ⟨0, by omega, rfl, HB2⟩
      case round =>
        obtain ⟨k, hk, rfl, hb⟩ := hrel
        by_cases hlt : k < n
        · have hkl : k < l.length := by rw [HL.out]; exact hlt
          have hAk := HA.out _ (getB_mem l k hkl)
          rcases HR.out.2.2 with rfl | ⟨b, off, rfl, hc⟩
          · simp at hkl
          obtain ⟨c0, c1, c2, c3⟩ := at_below (hc k hkl) hb.out
          have HM := Lib.hid (fun m : Later wr => later_same (HLe.out m.to (hb.out.trans (m.bel.mono hb.out.size))))
          generalize l[k]! = y at hAk c0 c1 c2 c3
          obtain ⟨st, lv, wr', nx⟩ := y
          dsimp only at hAk c0 c1 c2 c3
          generalize least l = m at HM hAk
          obtain ⟨h3, h0, h2⟩ := hAk
          have t3 : (st == 3) = false := by simp [h3]
          have t0 : (st == 0) = true → (wr' == m) = false := fun h => by have := h0 (by simpa using h); simp [this]
          have t2 : (st == 2) = true → room = true → (wr' == m) = false ∧ decide (lv < p) = false := fun h hr => by
            have := h2 (by simpa using h) hr
            exact ⟨by simp [this.1], decide_eq_false (by have := this.2; omega)⟩
          clear h3 h0 h2 hc hkl
          have f2 := fun m : Later wr => m.cell c2
          go_wp2_with fail
          refine wp_region_later (by kernel_rfl) (by kernel_rfl) ?_
          repeat (go_big_quiet_step (with_reducible first | exact HM.out _))
          refine wpQuiet_nil ?_
          rintro _ ⟨mm, rfl⟩
          have HB3 := Lib.hid (hb.out.trans (mm.bel.mono hb.out.size))
          have k0 := mm.cell c0
          have k1 := mm.cell c1
          clear c0 c1 c2 c3 f2 HM
          cases s0 : st == 0 with
          | true =>
            have tw := t0 s0
            have s2 : (st == 2) = false := by simp at s0; subst s0; rfl
            clear t0 t2
            go_wp2
            go_roundw
            case rel => exact ⟨k + 1, by omega, by go_num, HB3⟩
            case measure => simp [intOf]; omega
          | false =>
            clear t0
            cases s2 : st == 2 with
            | false =>
              clear t2
              go_wp2
              go_roundw
              case rel => exact ⟨k + 1, by omega, by go_num, HB3⟩
              case measure => simp [intOf]; omega
            | true =>
              cases room with
              | false =>
                clear t2
                go_wp2
                go_roundw
                case rel => exact ⟨k + 1, by omega, by go_num, HB3⟩
                case measure => simp [intOf]; omega
              | true =>
                obtain ⟨tw, tl⟩ := t2 s2 rfl
                clear t2
                go_wp2
                go_roundw
                case rel => exact ⟨k + 1, by omega, by go_num, HB3⟩
                case measure => simp [intOf]; omega
        · have : k = n := by omega
          subst this
          go_wp2_with fail
          refine (known_any _).mono ?_
          rintro e w' ⟨rfl, hb3⟩
          go_wp2
          go_ret
          exact ⟨rfl, hb.out.trans (hb3.mono hb.out.size)⟩
    · have t4 : (kd != 0) = true := by simp [h0]
      clear h0 HF hRt
      go_enter Try.func12, Try.ntmps12
      go_wp2_with fail
      refine (HLo.out _).mono ?_
      rintro e w' ⟨rfl, rfl⟩
      go_wp2_with fail
      refine HRi.out.mono ?_
      rintro e w1 ⟨rfl, hb1⟩
      have HB1 := Lib.hid hb1
      clear hb1
      go_wp2_with fail
      refine (HN.out _ HB1.out).mono ?_
      rintro e w2 ⟨rfl, hb2⟩
      have HB2 := Lib.hid (HB1.out.trans (hb2.mono HB1.out.size))
      clear hb2
      go_wp2_with fail
      refine (known_any _).mono ?_
      rintro e w' ⟨rfl, hb⟩
      go_wp2
      go_ret
      exact ⟨rfl, HB2.out.trans (hb.mono HB2.out.size)⟩
  · rw [decide_eq_false hRt] at HRi
    clear hRt HF
    go_enter Try.func12, Try.ntmps12
    go_wp2_with fail
    refine (HLo.out _).mono ?_
    rintro e w' ⟨rfl, rfl⟩
    go_wp2_with fail
    refine HRi.out.mono ?_
    rintro e w1 ⟨rfl, hb1⟩
    go_wp2_with fail
    refine (known_any _).mono ?_
    rintro e w' ⟨rfl, hb⟩
    go_wp2
    go_ret
    exact ⟨rfl, hb1.trans (hb.mono hb1.size)⟩
end Go.Proofs.Ytoakgogngcmneaa
