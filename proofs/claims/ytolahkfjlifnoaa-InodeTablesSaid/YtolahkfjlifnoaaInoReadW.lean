/-
  The inode of 24 bytes: the walk.
-/
import Derived.Test.YtolahkfjlifnoaaInoRead
namespace Go.Proofs.Ytolahkfjlifnoaa
open Go.RowKit Crcm Tagm Inom Go.ChangeShapes

/-- a function with a body of its own is entered -/
theorem enters_go {f : FuncId} {fn : Func} {c : Code} (h : Try.prog.funcs[f]? = some fn) (hn : (fn.name == "runtime.NumGoroutine") = false) (hb : fn.body = some c) :
    ∀ args w, (callFunc f args).run Try.prog w = .ok (.enter f args) w := by
  intro args w
  have : fn.name ≠ "runtime.NumGoroutine" := by simpa using hn
  simp [callFunc, h, this, hb, mark]

/-- what is answered of 24 bytes -/
def rdV (l : List Int) : Value := if nat_ l 1 1 = 0 ∧ IR (rd l) then .tuple #[iv (rd l), .int .i64 0] else .tuple #[iv zi, .int .i64 51]
theorem rdV_yes {l : List Int} (h : nat_ l 1 1 = 0) (h2 : IR (rd l)) : rdV l = .tuple #[iv (rd l), .int .i64 0] := if_pos ⟨h, h2⟩
theorem rdV_no {l : List Int} (h : ¬ (nat_ l 1 1 = 0 ∧ IR (rd l))) : rdV l = .tuple #[iv zi, .int .i64 51] := if_neg h

/-- the inode's cells while it is read -/
def csA (l : List Int) (n : Nat) : Array Value := #[.int .i64 (nat_ l 0 1), .int .i64 (nat_ l 2 2), .int .i64 (nat_ l 4 4), .int .i64 (if 0 < n then nat_ l 8 2 else 0), .int .i64 (if 1 < n then nat_ l 10 2 else 0), .int .i64 (if 2 < n then nat_ l 12 2 else 0), .int .i64 (if 3 < n then nat_ l 14 2 else 0), .int .i64 (if 4 < n then nat_ l 16 2 else 0), .int .i64 (if 5 < n then nat_ l 18 2 else 0), .int .i64 0, .int .i64 0]

set_option maxRecDepth 100000 in
set_option maxHeartbeats 4000000 in
theorem iread_24 (b off cap : Nat) (l : List Int) (w : World) (hr : Rw w (some ⟨b, off, none⟩) l) (hl : l.length = 24) (hc : 24 ≤ cap) :
    Calls Try.prog 20 #[.slice (some ⟨b, off, none⟩) 24 cap] w fun e w' => e = .returned (rdV l) ∧ Below w.heap.size w w' := by
  have hR0 : Rst w (((w.alloc (.cells #[.int .i64 0, .int .i64 0, .int .i64 0, .int .i64 0, .int .i64 0, .int .i64 0, .int .i64 0, .int .i64 0, .int .i64 0, .int .i64 0, .int .i64 0] 24)).alloc (.cells #[.slice (some ⟨b, off, none⟩) 24 cap] 25)).alloc (.cells #[.int .i64 0, .int .i64 0, .int .i64 0, .int .i64 0, .int .i64 0, .int .i64 0, .int .i64 0, .int .i64 0, .int .i64 0, .int .i64 0, .int .i64 0] 24)) b off l 0 cap #[.int .i64 0, .int .i64 0, .int .i64 0, .int .i64 0, .int .i64 0, .int .i64 0, .int .i64 0, .int .i64 0, .int .i64 0, .int .i64 0, .int .i64 0] := by
    refine ⟨((Blk.new w _ _).alloc _).alloc _, ⟨_, ?_, fun _ => rfl⟩, ?_, hr, (((Below.refl _ _).alloc (Nat.le_refl _) _).alloc (by simp) _).alloc (by simp; omega) _⟩
    · have := (Blk.new (w.alloc (.cells #[.int .i64 0, .int .i64 0, .int .i64 0, .int .i64 0, .int .i64 0, .int .i64 0, .int .i64 0, .int .i64 0, .int .i64 0, .int .i64 0, .int .i64 0] 24)) 25 #[.slice (some ⟨b, off, none⟩) 24 cap]).alloc (.cells #[.int .i64 0, .int .i64 0, .int .i64 0, .int .i64 0, .int .i64 0, .int .i64 0, .int .i64 0, .int .i64 0, .int .i64 0, .int .i64 0, .int .i64 0] 24)
      simpa using this
    · have := Blk.new ((w.alloc (.cells #[.int .i64 0, .int .i64 0, .int .i64 0, .int .i64 0, .int .i64 0, .int .i64 0, .int .i64 0, .int .i64 0, .int .i64 0, .int .i64 0, .int .i64 0] 24)).alloc (.cells #[.slice (some ⟨b, off, none⟩) 24 cap] 25)) 24 #[.int .i64 0, .int .i64 0, .int .i64 0, .int .i64 0, .int .i64 0, .int .i64 0, .int .i64 0, .int .i64 0, .int .i64 0, .int .i64 0, .int .i64 0]
      simpa using this
  obtain ⟨W, hW⟩ : ∃ W, (((w.alloc (.cells #[.int .i64 0, .int .i64 0, .int .i64 0, .int .i64 0, .int .i64 0, .int .i64 0, .int .i64 0, .int .i64 0, .int .i64 0, .int .i64 0, .int .i64 0] 24)).alloc (.cells #[.slice (some ⟨b, off, none⟩) 24 cap] 25)).alloc (.cells #[.int .i64 0, .int .i64 0, .int .i64 0, .int .i64 0, .int .i64 0, .int .i64 0, .int .i64 0, .int .i64 0, .int .i64 0, .int .i64 0, .int .i64 0] 24)) = W := ⟨_, rfl⟩
  rw [hW] at hR0
  have R0 := Lib.hid hR0
  have HW := Lib.hid hW
  have HL := Lib.hid hl
  clear hR0 hW hr hl
  have ec : ∀ args w, (callFunc 61 args).run Try.prog w = .ok (.enter 61 args) w := enters_go Try.func61 (by kernel_rfl) rfl
  go_enter Try.func20, Try.ntmps20
  go_wp2_with fail
  rw [HW.out]
  refine (itake R0.out 1 1 rfl HL.out (by omega) (by omega) (by omega) hc).mono ?_
  rintro e W1 ⟨rfl, q⟩
  have Q1 := Lib.hid q
  clear q
  have hcl := Q1.out.i.cell 0
  have hfr := Q1.out.i.frozen 0
  have hp := Q1.out.put 0 (.int .i64 (nat_ l 0 1))
  obtain ⟨V1, hV⟩ : ∃ V, W1.setCell ⟨w.heap.size + 2, 0, none⟩ (.int .i64 (nat_ l 0 1)) = V := ⟨_, rfl⟩
  rw [hV] at hp
  have HV1 := Lib.hid hV
  have R1 := Lib.hid hp
  clear hV hp Q1
  go_wp2_with fail
  rw [HV1.out]
  clear hcl hfr
  refine (itake R1.out 1 1 rfl HL.out (by omega) (by omega) (by omega) hc).mono ?_
  rintro e W2 ⟨rfl, q⟩
  have Q2 := Lib.hid q
  clear q
  go_wp2_with fail
  refine (itake Q2.out 2 2 rfl HL.out (by omega) (by omega) (by omega) hc).mono ?_
  rintro e W3 ⟨rfl, q⟩
  have Q3 := Lib.hid q
  clear q
  have hcl := Q3.out.i.cell 1
  have hfr := Q3.out.i.frozen 1
  have hp := Q3.out.put 1 (.int .i64 (nat_ l 2 2))
  obtain ⟨V3, hV⟩ : ∃ V, W3.setCell ⟨w.heap.size + 2, 1, none⟩ (.int .i64 (nat_ l 2 2)) = V := ⟨_, rfl⟩
  rw [hV] at hp
  have HV3 := Lib.hid hV
  have R3 := Lib.hid hp
  clear hV hp Q3
  go_wp2_with fail
  rw [HV3.out]
  clear hcl hfr
  refine (itake R3.out 4 4 rfl HL.out (by omega) (by omega) (by omega) hc).mono ?_
  rintro e W4 ⟨rfl, q⟩
  have Q4 := Lib.hid q
  clear q
  have hcl := Q4.out.i.cell 2
  have hfr := Q4.out.i.frozen 2
  have hp := Q4.out.put 2 (.int .i64 (nat_ l 4 4))
  obtain ⟨V4, hV⟩ : ∃ V, W4.setCell ⟨w.heap.size + 2, 2, none⟩ (.int .i64 (nat_ l 4 4)) = V := ⟨_, rfl⟩
  rw [hV] at hp
  have HV4 := Lib.hid hV
  have R4 : Hid (Rst w V4 b off l (8 + 2 * 0) cap (csA l 0)) := Lib.hid hp
  clear hV hp Q4
  go_wp2_with fail
  rw [HV4.out]
  clear hcl hfr HV4
  go_loopw [26] (fun i wr => ∃ n : Nat, n ≤ 6 ∧ i = .int .i64 n ∧ Hid (Rst w wr b off l (8 + 2 * n) cap (csA l n))) (fun i _ => 6 - (intOf i).toNat)
  case atStart => exact ⟨0, by omega, rfl, R4⟩
  case round =>
    obtain ⟨n, hn, rfl, hO⟩ := hrel
    clear R4
    have hcs : n = 0 ∨ n = 1 ∨ n = 2 ∨ n = 3 ∨ n = 4 ∨ n = 5 ∨ n = 6 := by omega
    rcases hcs with rfl | rfl | rfl | rfl | rfl | rfl | rfl
    · go_wp2_with fail
      refine (itake hO.out 2 2 rfl HL.out (by omega) (by omega) (by omega) hc).mono ?_
      rintro e W9 ⟨rfl, q⟩
      have Q9 := Lib.hid q
      have hcl := q.i.cell 3
      have hfr := q.i.frozen 3
      clear q hO
      go_wp2
      go_roundw
      case rel => exact ⟨1, by omega, rfl, Lib.hid (Q9.out.put 3 (.int .i64 (nat_ l 8 2)))⟩
      case measure => simp [intOf]
    · go_wp2_with fail
      refine (itake hO.out 2 2 rfl HL.out (by omega) (by omega) (by omega) hc).mono ?_
      rintro e W9 ⟨rfl, q⟩
      have Q9 := Lib.hid q
      have hcl := q.i.cell 4
      have hfr := q.i.frozen 4
      clear q hO
      go_wp2
      go_roundw
      case rel => exact ⟨2, by omega, rfl, Lib.hid (Q9.out.put 4 (.int .i64 (nat_ l 10 2)))⟩
      case measure => simp [intOf]
    · go_wp2_with fail
      refine (itake hO.out 2 2 rfl HL.out (by omega) (by omega) (by omega) hc).mono ?_
      rintro e W9 ⟨rfl, q⟩
      have Q9 := Lib.hid q
      have hcl := q.i.cell 5
      have hfr := q.i.frozen 5
      clear q hO
      go_wp2
      go_roundw
      case rel => exact ⟨3, by omega, rfl, Lib.hid (Q9.out.put 5 (.int .i64 (nat_ l 12 2)))⟩
      case measure => simp [intOf]
    · go_wp2_with fail
      refine (itake hO.out 2 2 rfl HL.out (by omega) (by omega) (by omega) hc).mono ?_
      rintro e W9 ⟨rfl, q⟩
      have Q9 := Lib.hid q
      have hcl := q.i.cell 6
      have hfr := q.i.frozen 6
      clear q hO
      go_wp2
      go_roundw
      case rel => exact ⟨4, by omega, rfl, Lib.hid (Q9.out.put 6 (.int .i64 (nat_ l 14 2)))⟩
      case measure => simp [intOf]
    · go_wp2_with fail
      refine (itake hO.out 2 2 rfl HL.out (by omega) (by omega) (by omega) hc).mono ?_
      rintro e W9 ⟨rfl, q⟩
      have Q9 := Lib.hid q
      have hcl := q.i.cell 7
      have hfr := q.i.frozen 7
      clear q hO
      go_wp2
      go_roundw
      case rel => exact ⟨5, by omega, rfl, Lib.hid (Q9.out.put 7 (.int .i64 (nat_ l 16 2)))⟩
      case measure => simp [intOf]
    · go_wp2_with fail
      refine (itake hO.out 2 2 rfl HL.out (by omega) (by omega) (by omega) hc).mono ?_
      rintro e W9 ⟨rfl, q⟩
      have Q9 := Lib.hid q
      have hcl := q.i.cell 8
      have hfr := q.i.frozen 8
      clear q hO
      go_wp2
      go_roundw
      case rel => exact ⟨6, by omega, rfl, Lib.hid (Q9.out.put 8 (.int .i64 (nat_ l 18 2)))⟩
      case measure => simp [intOf]
    · go_wp2_with fail
      refine (itake hO.out 2 2 rfl HL.out (by omega) (by omega) (by omega) hc).mono ?_
      rintro e W9 ⟨rfl, q⟩
      have Q9 := Lib.hid q
      have hcl := q.i.cell 9
      have hfr := q.i.frozen 9
      clear q hO
      have hp := Q9.out.put 9 (.int .i64 (nat_ l 20 2))
      obtain ⟨V9, hV⟩ : ∃ V, W9.setCell ⟨w.heap.size + 2, 9, none⟩ (.int .i64 (nat_ l 20 2)) = V := ⟨_, rfl⟩
      rw [hV] at hp
      have HV9 := Lib.hid hV
      have R9 := Lib.hid hp
      clear hV hp Q9
      go_wp2_with fail
      rw [HV9.out]
      clear hcl hfr HV9
      refine (itake R9.out 2 2 rfl HL.out (by omega) (by omega) (by omega) hc).mono ?_
      rintro e W10 ⟨rfl, q⟩
      have Q10 := Lib.hid q
      have hcl := q.i.cell 10
      have hfr := q.i.frozen 10
      clear q R9
      clear hn
      have hp : Rst w (W10.setCell ⟨w.heap.size + 2, 10, none⟩ (.int .i64 (nat_ l 22 2))) b off l 24 cap #[.int .i64 (nat_ l 0 1), .int .i64 (nat_ l 2 2), .int .i64 (nat_ l 4 4), .int .i64 (nat_ l 8 2), .int .i64 (nat_ l 10 2), .int .i64 (nat_ l 12 2), .int .i64 (nat_ l 14 2), .int .i64 (nat_ l 16 2), .int .i64 (nat_ l 18 2), .int .i64 (nat_ l 20 2), .int .i64 (nat_ l 22 2)] := Q10.out.put 10 (.int .i64 (nat_ l 22 2))
      have HP := Lib.hid hp
      have hz := hp.r.eleven
      clear Q10
      by_cases hy : nat_ l 1 1 = 0
      · obtain ⟨c0, c1, c2, c3, c4, c5, c6, c7, c8, c9, c10⟩ := hp.i.eleven
        have HRt := Lib.hid (fun w => iright_any (rd l) w)
        by_cases hIR : IR (rd l)
        · have HV := Lib.hid (rdV_yes (l := l) hy hIR)
          rw [decide_eq_true hIR] at HRt
          unfold rd iv at HRt
          clear hz hp hIR
          rw [hy]
          go_wp2_with fail
          refine (HRt.out _).mono ?_
          rintro e W11 ⟨rfl, hb⟩
          have hq := HP.out.next hb
          have HQ := Lib.hid hq
          clear c0 c1 c2 c3 c4 c5 c6 c7 c8 c9 c10 hb HP
          obtain ⟨c0, c1, c2, c3, c4, c5, c6, c7, c8, c9, c10⟩ := hq.i.eleven
          obtain ⟨e0, e1, e2, e3, e4, e5, e6, e7, e8, e9, e10⟩ := hq.r.eleven
          have hf := fun j => hq.r.frozen j
          clear hq
          go_wp2
          obtain ⟨x0, x1, x2, x3, x4, x5, x6, x7, x8, x9, x10⟩ := (ovI_blk (i := rd l) HQ.out.r).eleven
          have XB := ovI_below (i := rd l) HQ.out.b (Nat.le_refl w.heap.size)
          unfold ovI rd at x0 x1 x2 x3 x4 x5 x6 x7 x8 x9 x10 XB
          simp only at x0 x1 x2 x3 x4 x5 x6 x7 x8 x9 x10 XB
          exact bodyPost_ret (v := .tuple #[iv (rd l), .int .i64 0]) (by simp [iv, rd, results, Try.results20, go_sem, x0, x1, x2, x3, x4, x5, x6, x7, x8, x9, x10]) rfl ⟨by rw [HV.out], XB⟩
        · have HV := Lib.hid (rdV_no (l := l) fun h => hIR h.2)
          rw [decide_eq_false hIR] at HRt
          unfold rd iv at HRt
          clear hz hp hIR
          rw [hy]
          go_wp2_with fail
          refine (HRt.out _).mono ?_
          rintro e W11 ⟨rfl, hb⟩
          have hq := HP.out.next hb
          have HQ := Lib.hid hq
          clear c0 c1 c2 c3 c4 c5 c6 c7 c8 c9 c10 hb HP
          obtain ⟨e0, e1, e2, e3, e4, e5, e6, e7, e8, e9, e10⟩ := hq.r.eleven
          have hf := fun j => hq.r.frozen j
          clear hq
          go_wp2
          obtain ⟨x0, x1, x2, x3, x4, x5, x6, x7, x8, x9, x10⟩ := (ovI_blk (i := zi) HQ.out.r).eleven
          have XB := ovI_below (i := zi) HQ.out.b (Nat.le_refl w.heap.size)
          unfold ovI zi at x0 x1 x2 x3 x4 x5 x6 x7 x8 x9 x10 XB
          simp only at x0 x1 x2 x3 x4 x5 x6 x7 x8 x9 x10 XB
          exact bodyPost_ret (v := .tuple #[iv zi, .int .i64 51]) (by simp [iv, zi, results, Try.results20, go_sem, x0, x1, x2, x3, x4, x5, x6, x7, x8, x9, x10]) rfl ⟨by rw [HV.out], XB⟩
      · have HV := Lib.hid (rdV_no (l := l) fun h => hy h.1)
        have hy1 : (nat_ l 1 1 == 0) = false := by simpa using hy
        have hy2 : (nat_ l 1 1 != 0) = true := by simpa using hy
        obtain ⟨e0, e1, e2, e3, e4, e5, e6, e7, e8, e9, e10⟩ := hz
        have hf := fun j => hp.r.frozen j
        clear hp hy
        go_wp2
        obtain ⟨x0, x1, x2, x3, x4, x5, x6, x7, x8, x9, x10⟩ := (ovI_blk (i := zi) HP.out.r).eleven
        have XB := ovI_below (i := zi) HP.out.b (Nat.le_refl w.heap.size)
        unfold ovI zi at x0 x1 x2 x3 x4 x5 x6 x7 x8 x9 x10 XB
        simp only at x0 x1 x2 x3 x4 x5 x6 x7 x8 x9 x10 XB
        exact bodyPost_ret (v := .tuple #[iv zi, .int .i64 51]) (by simp [iv, zi, results, Try.results20, go_sem, x0, x1, x2, x3, x4, x5, x6, x7, x8, x9, x10]) rfl ⟨by rw [HV.out], XB⟩

end Go.Proofs.Ytolahkfjlifnoaa
