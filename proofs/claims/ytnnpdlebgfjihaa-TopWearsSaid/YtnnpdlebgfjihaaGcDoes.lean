/-
  What is to be done next with a row of blocks: the program's call Next. Nothing of one statement alone stands here.
-/
import Derived.Test.YtnnpdlebgfjihaaGcNext
import Derived.Test.YtnnpdlebgfjihaaBlk
import Derived.WalkMore
namespace Gcm
theorem look_at {room : Bool} {l : List Bk} {S : List Sr} {k : Nat} (hk : k < S.length) (hn : ∀ j, j < k → hit room l S[j]! = false) (hh : hit room l S[k]! = true) :
    look room l S = (S[k]!.kind, best S[k]!.fit S[k]!.bt l l.length) := by
  rcases look_cases room l S with ⟨_, h⟩ | ⟨i, hi, h1, h2, h3⟩
  · have := h S[k]! (by rw [getElem!_pos S k hk]; exact List.getElem_mem hk)
    rw [this] at hh; cases hh
  · rcases Nat.lt_trichotomy i k with h | h | h
    · rw [hn i h] at h2; cases h2
    · subst h; exact h3
    · rw [h1 k h] at hh; cases hh
theorem look_none {room : Bool} {l : List Bk} {S : List Sr} (hn : ∀ j, j < S.length → hit room l S[j]! = false) : look room l S = (0, -1) := by
  rcases look_cases room l S with ⟨h, _⟩ | ⟨i, hi, _, h2, _⟩
  · exact h
  · rw [hn i hi] at h2; cases h2
end Gcm
namespace Go.Proofs.Ytnnpdlebgfjihaa
open Go.RowKit Gcm Go.ChangeShapes

/-- an action as a value -/
def av (x : Int × Int) : Value := .agg #[.int .i64 x.1, .int .i64 x.2]

set_option maxRecDepth 100000 in
set_option maxHeartbeats 1000000 in
theorem next_any (l : List Bk) (a : Option Addr) (cap n : Nat) (p : Int) (room : Bool) (w : World) (hr : Rg w a l) (hl : l.length = n) :
    Calls Try.prog 59 #[.slice a n cap, .int .i64 p, .bool room] w fun e w' => e = .returned (av (nxt l p room)) ∧ Below w.heap.size w w' := by
  obtain ⟨W0, hW0⟩ : ∃ W, (w.alloc (.cells #[.int .i64 0, .int .i64 0] 53)).alloc (.cells #[.int .i64 0, .int .i64 (-1)] 53) = W := ⟨_, rfl⟩
  have HW0 := Lib.hid hW0
  have B0 : Hid (Blk W0 w.heap.size 53 #[.int .i64 0, .int .i64 0]) := Lib.hid (by rw [← hW0]; exact (Blk.new w _ _).alloc _)
  have B1 : Hid (Blk W0 (w.heap.size + 1) 53 #[.int .i64 0, .int .i64 (-1)]) := Lib.hid (by
    have := Blk.new (w.alloc (.cells #[.int .i64 0, .int .i64 0] 53)) 53 #[.int .i64 0, .int .i64 (-1)]
    rw [hW0] at this
    simpa using this)
  have BB : Hid (Below w.heap.size w W0) := Lib.hid (by rw [← hW0]; exact ((Below.refl _ w).alloc (Nat.le_refl _) _).alloc (by simp) _)
  have HR := Lib.hid (right_any l a cap n p W0 (hr.below BB.out) hl)
  clear hW0
  by_cases hRt : Rt l p
  · rw [decide_eq_true hRt] at HR
    have HX := Lib.hid (nxt_look (room := room) hRt)
    have HLe := Lib.hid (fun W (hb : Below w.heap.size w W) => least_any l a cap n W (hr.below hb) hl)
    have HSe := Lib.hid (fun W => searches_any l p (least l) W (fun x hx => wrap_sub (by have := hRt.2 x hx; unfold Rb at this; omega) (least_bounds l p hRt)))
    have HBe := Lib.hid (fun W (hb : Below w.heap.size w W) g lb fit g2 lb2 bt eg hp eg2 hp2 => best_any l a cap n g lb fit g2 lb2 bt W (hr.below hb) hl eg hp eg2 hp2)
    have HL := Lib.hid hl
    generalize least l = m at HX HLe HSe
    clear hRt hr hl
    go_enter Try.func59, Try.ntmps59
    go_wp2_with fail
    go_step3
    go_wp2_with fail
    rw [HW0.out]
    refine HR.out.mono ?_
    rintro e w1 ⟨rfl, hb1⟩
    have BB1 := Lib.hid (BB.out.trans (hb1.mono BB.out.size))
    have B01 := Lib.hid (B0.out.below hb1 B0.out.lt)
    have B11 := Lib.hid (B1.out.below hb1 B1.out.lt)
    clear hb1 B0 B1 HR HW0
    go_wp2_with fail
    go_step3
    go_wp2_with fail
    refine (HLe.out _ BB1.out).mono ?_
    rintro e w2 ⟨rfl, hb2⟩
    have BB2 := Lib.hid (BB1.out.trans (hb2.mono BB1.out.size))
    have B02 := Lib.hid (B01.out.below hb2 B01.out.lt)
    have B12 := Lib.hid (B11.out.below hb2 B11.out.lt)
    clear hb2 B01 B11
    go_wp2_with fail
    refine (HSe.out _).mono ?_
    rintro e w3 ⟨b, rfl, hS, hb3⟩
    have BB3 := Lib.hid (BB2.out.trans (hb3.mono BB2.out.size))
    have B03 := Lib.hid (B02.out.below hb3 B02.out.lt)
    have B13 := Lib.hid (B12.out.below hb3 B12.out.lt)
    have HS := Lib.hid hS
    clear hb3 B02 B12 hS HLe HSe
    go_wp2_with fail
    go_loopw [22] (fun i wr => ∃ k : Nat, k ≤ 6 ∧ i = .int .i64 k ∧ Hid (Blk wr w.heap.size 53 #[.int .i64 0, .int .i64 0]) ∧ Hid (Blk wr (w.heap.size + 1) 53 #[.int .i64 0, .int .i64 (-1)]) ∧ Hid (Below w.heap.size w wr) ∧ Hid (Below w3.heap.size w3 wr) ∧ Hid (∀ j, j < k → hit room l (srs p m)[j]! = false)) (fun i _ => 6 - (intOf i).toNat)
    case atStart => exact ⟨0, by omega, rfl, B03, B13, BB3, Lib.hid (Below.refl _ _), Lib.hid fun j hj => absurd hj (Nat.not_lt_zero _)⟩
    case round =>
      obtain ⟨k, hk, rfl, D0, D1, DB, D3, hN⟩ := hrel
      by_cases hlt : k < 6
      · obtain ⟨q0, q1, ⟨vf, q2, hvf⟩, ⟨vb, q3, hvb⟩⟩ := HS.out k hlt
        obtain ⟨gf, lf, rfl, ef, pf⟩ := hvf
        obtain ⟨gb, lb, rfl, eb, pb⟩ := hvb
        have c0 := (D3.out.cell (block_lt_of_cell q0)).trans q0
        have c1 := (D3.out.cell (block_lt_of_cell q1)).trans q1
        have c2 := (D3.out.cell (block_lt_of_cell q2)).trans q2
        have c3 := (D3.out.cell (block_lt_of_cell q3)).trans q3
        have HLo := Lib.hid (fun h => look_at (room := room) (l := l) (S := srs p m) (k := k) hlt hN.out h)
        obtain ⟨sr, hsr⟩ : ∃ sr, (srs p m)[k]! = sr := ⟨_, rfl⟩
        have HSR := Lib.hid hsr
        rw [hsr] at c0 c1 pf pb HLo
        obtain ⟨kd, rm, ft, bt⟩ := sr
        have HBst := Lib.hid (fun W (hb : Below wr.heap.size wr W) => HBe.out W (DB.out.trans (hb.mono DB.out.size)) gf lf ft gb lb bt ef (pf.later (D3.out.trans (hb.mono D3.out.size))) eb (pb.later (D3.out.trans (hb.mono D3.out.size))))
        have hbox : Below wr.heap.size wr (wr.alloc (.cells #[.int .i64 kd, .bool rm, .func (.func gf) #[] lf, .func (.func gb) #[] lb] 129)) := (Below.refl _ _).alloc (Nat.le_refl _) _
        have hit0 : hit room l ⟨kd, rm, ft, bt⟩ = (!(rm && !room) && decide (0 ≤ best ft bt l n)) := by rw [← HL.out]; rfl
        have eL : best ft bt l l.length = best ft bt l n := by rw [HL.out]
        dsimp only at HLo c0 c1
        rw [eL] at HLo
        have hbl := best_lt ft bt l n
        generalize best ft bt l n = q at HBst hit0 HLo
        have H0 := Lib.hid hit0
        have hsz1 : w.heap.size + 1 < wr.heap.size := D1.out.lt
        clear q0 q1 q2 q3 pf pb hsr hit0 eL
        by_cases hskip : rm = true ∧ room = false
        · obtain ⟨rfl, rfl⟩ := hskip
          clear HBst
          go_wp2
          go_roundw
          case rel =>
            refine ⟨k + 1, by omega, by go_num, Lib.hid (D0.out.alloc _), Lib.hid (D1.out.alloc _), Lib.hid (DB.out.trans (hbox.mono DB.out.size)), Lib.hid (D3.out.trans (hbox.mono D3.out.size)), Lib.hid fun j hj => ?_⟩
            by_cases e : j = k
            · subst e; rw [HSR.out, H0.out]; rfl
            · exact hN.out j (by omega)
          case measure => simp [intOf]; omega
        · have hgo : rm = false ∨ (rm = true ∧ room = true) := by cases rm <;> cases room <;> simp_all
          have H1 : Hid (hit room l ⟨kd, rm, ft, bt⟩ = decide (0 ≤ q)) := Lib.hid (by rw [H0.out]; rcases hgo with rfl | ⟨rfl, rfl⟩ <;> simp)
          have E0 := Lib.hid (D0.out.alloc (.cells #[.int .i64 kd, .bool rm, .func (.func gf) #[] lf, .func (.func gb) #[] lb] 129))
          have E1 := Lib.hid (D1.out.alloc (.cells #[.int .i64 kd, .bool rm, .func (.func gf) #[] lf, .func (.func gb) #[] lb] 129))
          have EB := Lib.hid (Blk.new wr 129 #[.int .i64 kd, .bool rm, .func (.func gf) #[] lf, .func (.func gb) #[] lb])
          have HBX := Lib.hid hbox
          have HB1 := Lib.hid (HBst.out _ hbox)
          clear hskip H0 D0 D1 hbox HBst
          rcases hgo with rfl | ⟨rfl, rfl⟩
          all_goals
            go_wp2_with fail
            refine HB1.out.mono ?_
            rintro e w4 ⟨rfl, hb4⟩
            have F0 := Lib.hid (E0.out.below hb4 E0.out.lt)
            have F1 := Lib.hid (E1.out.below hb4 E1.out.lt)
            have FB := Lib.hid (EB.out.below hb4 EB.out.lt)
            have HB4 := Lib.hid (HBX.out.trans (hb4.mono HBX.out.size))
            clear hb4 E0 E1 EB HB1 c0 c1 c2 c3
            by_cases h0 : 0 ≤ q
            · have t0 : decide (0 ≤ q) = true := decide_eq_true h0
              have HX2 := Lib.hid (HX.out.trans (HLo.out (by rw [H1.out, t0])))
              have c0 := FB.out.cell 0
              have d0 := F1.out.cell 0
              have d1 := F1.out.cell 1
              have f0 := F1.out.frozen 0
              have f1 := F1.out.frozen 1
              have r0 := F0.out.cell 0
              have r1 := F0.out.cell 1
              have u0 := F0.out.frozen 0
              have u1 := F0.out.frozen 1
              simp at c0 d0 d1 r0 r1
              have X1 := Lib.hid (ov2_blk (a := kd) (b := q) F1.out)
              have X0 := Lib.hid (ov2_far (a := kd) (b := q) F0.out (by omega : w.heap.size ≠ w.heap.size + 1))
              have XB := Lib.hid (ov2_below (a := kd) (b := q) (DB.out.trans (HB4.out.mono DB.out.size)) (by omega : w.heap.size ≤ w.heap.size + 1))
              have X := ov2_blk (a := kd) (b := q) X0.out
              have XF := Lib.hid (ov2_below (a := kd) (b := q) XB.out (Nat.le_refl w.heap.size))
              have x0 := X.cell 0
              have x1 := X.cell 1
              simp at x0 x1
              unfold ov2 at x0 x1
              clear h0 HLo H1 X
              go_wp2
              rw [Exit.noGoto_ret]
              exact bodyPost_ret (v := av (kd, q)) (by simp [av, results, Try.results59, go_sem, x0, x1]) rfl ⟨by rw [HX2.out], XF.out⟩
            · have t0 : decide (0 ≤ q) = false := decide_eq_false h0
              clear HLo h0
              go_wp2
              go_roundw
              case rel =>
                refine ⟨k + 1, by omega, by go_num, F0, F1, Lib.hid (DB.out.trans (HB4.out.mono DB.out.size)), Lib.hid (D3.out.trans (HB4.out.mono D3.out.size)), Lib.hid fun j hj => ?_⟩
                by_cases e : j = k
                · subst e; rw [HSR.out, H1.out, t0]
                · exact hN.out j (by omega)
              case measure => simp [intOf]; omega
      · have hk6 : k = 6 := by omega
        subst hk6
        have HX2 := Lib.hid (HX.out.trans (look_none (fun j hj => hN.out j hj)))
        have c0 := D0.out.cell 0
        have c1 := D0.out.cell 1
        have g0 := D0.out.frozen 0
        have g1 := D0.out.frozen 1
        have d0 := D1.out.cell 0
        have d1 := D1.out.cell 1
        simp at c0 c1 d0 d1
        have X := ov2_blk (a := 0) (b := -1) D0.out
        have HB := Lib.hid (ov2_below (a := 0) (b := -1) DB.out (Nat.le_refl _))
        have x0 := X.cell 0
        have x1 := X.cell 1
        simp at x0 x1
        unfold ov2 at x0 x1
        clear X
        go_wp2
        rw [Exit.noGoto_ret]
        exact bodyPost_ret (v := av (0, -1)) (by simp [av, results, Try.results59, go_sem, x0, x1]) rfl ⟨by rw [HX2.out], HB.out⟩
  · rw [decide_eq_false hRt] at HR
    have HX := Lib.hid (nxt_no (room := room) hRt)
    clear hRt hr hl
    go_enter Try.func59, Try.ntmps59
    go_wp2_with fail
    go_step3
    go_wp2_with fail
    rw [HW0.out]
    refine HR.out.mono ?_
    rintro e w1 ⟨rfl, hb1⟩
    have B01 := Lib.hid (B0.out.below hb1 B0.out.lt)
    have B11 := Lib.hid (B1.out.below hb1 B1.out.lt)
    have c0 := B01.out.cell 0
    have c1 := B01.out.cell 1
    have g0 := B01.out.frozen 0
    have g1 := B01.out.frozen 1
    have d0 := B11.out.cell 0
    have d1 := B11.out.cell 1
    simp at c0 c1 d0 d1
    have X := ov2_blk (a := 0) (b := -1) B01.out
    have HB := Lib.hid (ov2_below (a := 0) (b := -1) (BB.out.trans (hb1.mono BB.out.size)) (Nat.le_refl _))
    have x0 := X.cell 0
    have x1 := X.cell 1
    simp at x0 x1
    unfold ov2 at x0 x1
    clear hb1 X
    go_wp2
    rw [Exit.noGoto_ret]
    exact bodyPost_ret (v := av (0, -1)) (by simp [av, results, Try.results59, go_sem, x0, x1]) rfl ⟨by rw [HX.out], HB.out⟩
end Go.Proofs.Ytnnpdlebgfjihaa
