/-
  The inode of bytes: what the document's Read answers.
-/
import Derived.Test.YtolahkfjlifnoaaInoReadW
import Derived.Test.YtolahkfjlifnoaaInoRefR
import Derived.Deep.RegionHeld3
import Derived.Deep.DeepCutAuto
import Derived.Deep.MidRow
import Derived.Lib.SlBytesRow
namespace Go.Proofs.Ytolahkfjlifnoaa
open Go.RowKit Crcm Tagm Inom Go.ChangeShapes

theorem Try.size8 (w : World) : (Go.sizeOf 5).run Try.prog w = .ok 1 w := by
  obtain ⟨i0, hi, hz0, hz1, hz2⟩ := info_parts Try.info8
  simp [Go.sizeOf, typeInfo, hi, hz1]
theorem cut_at (b off n cap x y m : Nat) (X Y : Int) (hx : X = (x : Int)) (hy : Y = (y : Int)) (h1 : x < y) (h2 : y ≤ cap) (hm : y - x = m) (W : World) :
    (Instr.slice 25 (.slice (some ⟨b, off, none⟩) n cap) (some (.int .i64 X)) (some (.int .i64 Y)) none).run Try.prog W = .ok (.slice (some ⟨b, off + x, none⟩) m (cap - x)) W := by
  subst hx
  subst hy
  subst hm
  exact Lib.run_slice_window (P := Try.prog) W 25 5 Try.underlying25 Try.size8 b off n cap x y h1 h2

theorem num_len {a : Option Addr} {cap m : Nat} {l : List Int} {v : Int} {w : World} (hr : Rw w a l) (hl : l.length = m) (h8 : m ≤ 8) (hv : v = nu l) :
    Calls Try.prog 42 #[.slice a m cap] w fun e w' => e = .returned (.int .u64 v) ∧ w = w' := by
  subst hl hv
  exact num_any a cap l w hr h8
theorem nat_U {l : List Int} {p n : Nat} (h : ∀ b ∈ l, U8 b) (hn : n ≤ 4) : 0 ≤ nat_ l p n ∧ nat_ l p n < 4294967296 := by
  have hb := nu_bd ((l.drop p).take n) fun b hb => h b (List.mem_of_mem_drop (List.mem_of_mem_take hb))
  have hl : ((l.drop p).take n).length ≤ 4 := by rw [List.length_take]; omega
  unfold nat_
  have hp : (256 : Int) ^ ((l.drop p).take n).length ≤ 4294967296 := by
    generalize ((l.drop p).take n).length = n at hl
    match n, hl with
    | 0, _ => decide
    | 1, _ => decide
    | 2, _ => decide
    | 3, _ => decide
    | 4, _ => decide
    | n + 5, hl => omega
  omega

set_option maxRecDepth 100000 in
theorem two_any (b off n cap p : Nat) (P : Int) (l : List Int) (w : World) (hr : Rw w (some ⟨b, off, none⟩) l) (hl : l.length = n) (hP : P = p) (hp : p + 2 ≤ n) (hc : n ≤ cap) (hn : n ≤ 2000) :
    Calls Try.prog 63 #[.slice (some ⟨b, off, none⟩) n cap, .int .i64 P] w fun e w' => e = .returned (.int .i64 (nat_ l p 2)) ∧ w = w' := by
  subst hP
  have hq : Rw w (some ⟨b, off + p, none⟩) ((l.drop p).take 2) := (hr.drop p (a' := some ⟨b, off + p, none⟩) (fun b' off' e _ => by injection e with e; injection e with e1 e2; subst e1 e2; rfl)).take 2
  have HN := Lib.hid (num_len (cap := cap - p) (v := nat_ l p 2) hq (m := 2) (by rw [List.length_take, List.length_drop]; omega) (by omega) rfl)
  have hu := nat_U (p := p) (n := 2) hr.1 (by omega)
  have hw : IntKind.i64.wrap (nat_ l p 2) = nat_ l p 2 := IntWalk.i64_in _ (by omega)
  have es : p + 2 - p = 2 := by omega
  have HES := Lib.hid es
  generalize nat_ l p 2 = x at HN hw ⊢
  have HX := Lib.hid hw
  clear hr hl hq hu es hw
  go_enter Try.func63, Try.ntmps63
  go_wp2_with fail
  rw [HES.out]
  refine HN.out.mono ?_
  rintro e w' ⟨rfl, rfl⟩
  go_wp2
  go_ret
  exact ⟨ret_i64 (by have := HX.out; rw [IntWalk.i64_left] at this; exact this), rfl⟩

theorem irefread_len (a : Option Addr) (n cap : Nat) (w : World) (h : n ≠ 24) : Calls Try.prog 21 #[.slice a n cap] w fun e w' => e = .returned (.tuple #[iv zi, .int .i64 1]) ∧ Below w.heap.size w w' := by
  have h1 : ((n : Int) == 24) = false := by simp; omega
  have h2 : ((n : Int) != 24) = true := by simp; omega
  unfold iv zi
  go_enter Try.func21, Try.ntmps21
  go_wp2
  exact bodyPost_ret (v := .tuple #[.agg #[.int .i64 0, .int .i64 0, .int .i64 0, .int .i64 0, .int .i64 0, .int .i64 0, .int .i64 0, .int .i64 0, .int .i64 0, .int .i64 0, .int .i64 0], .int .i64 1]) (by simp [results, Try.results21, go_sem]) rfl ⟨rfl, (Below.refl _ _).alloc (Nat.le_refl _) _⟩

set_option maxRecDepth 100000 in
set_option maxHeartbeats 8000000 in
theorem irefread_24 (b off cap : Nat) (l : List Int) (w : World) (hr : Rw w (some ⟨b, off, none⟩) l) (hl : l.length = 24) (hc : 24 ≤ cap) :
    Calls Try.prog 21 #[.slice (some ⟨b, off, none⟩) 24 cap] w fun e w' => e = .returned (rdV l) ∧ Below w.heap.size w w' := by
  have HR := Lib.hid hr
  have HL := Lib.hid hl
  have HC := Lib.hid hc
  have hcell : ∀ i, i < 24 → w.cell? ⟨b, off + i, none⟩ = some (.int .u8 (l.getD i 0)) := by
    rcases hr.2.2 with h0 | ⟨b', o', e, h⟩
    · rw [h0] at hl; simp at hl
    · injection e with e; injection e with e1 e2; subst e1 e2; exact fun i hi => h i (by omega)
  have n0 : nat_ l 0 1 = l.getD 0 0 := by
    match l, hl with
    | a :: r, _ => simp [nat_, nu]
  have n1 : nat_ l 1 1 = l.getD 1 0 := by
    match l, hl with
    | a :: a2 :: r, _ => simp [nat_, nu]
  have hb0 : Below w.heap.size w (w.alloc (.cells #[.int .i64 0, .int .i64 0, .int .i64 0, .int .i64 0, .int .i64 0, .int .i64 0, .int .i64 0, .int .i64 0, .int .i64 0, .int .i64 0, .int .i64 0] 24)) := (Below.refl _ _).alloc (Nat.le_refl _) _
  obtain ⟨W, hW⟩ : ∃ W, w.alloc (.cells #[.int .i64 0, .int .i64 0, .int .i64 0, .int .i64 0, .int .i64 0, .int .i64 0, .int .i64 0, .int .i64 0, .int .i64 0, .int .i64 0, .int .i64 0] 24) = W := ⟨_, rfl⟩
  have hB := hb0
  rw [hW] at hB
  have HB := Lib.hid hB
  have hz := Blk.new w 24 #[.int .i64 0, .int .i64 0, .int .i64 0, .int .i64 0, .int .i64 0, .int .i64 0, .int .i64 0, .int .i64 0, .int .i64 0, .int .i64 0, .int .i64 0]
  rw [hW] at hz
  have HB0 := Lib.hid hz
  have hc0 : W.cell? ⟨b, off, none⟩ = some (.int .u8 (nat_ l 0 1)) := by
    have h := hcell 0 (by omega)
    rw [n0]
    exact (hB.cell (p := ⟨b, off + 0, none⟩) (block_lt_of_cell h)).trans h
  have hc1 : Hid (w.cell? ⟨b, off + 1, none⟩ = some (.int .u8 (nat_ l 1 1))) := Lib.hid (by rw [n1]; exact hcell 1 (by omega))
  have HW := Lib.hid hW
  have HU := Lib.hid (fun p n (hn : n ≤ 4) => nat_U (p := p) (n := n) hr.1 hn)
  have ax : Lib.hid hr = Lib.hid hr := rfl
  clear hz hB hW hb0 n0 n1 hcell ax
  have c4 := cut_at b off 24 cap 4 8 4 4 8 (by omega) (by omega) (by omega) (by omega) (by omega)
  have TT := Lib.hid (fun (P : Int) (w' : World) (hb : Below w.heap.size w w') (h0 : 0 ≤ P) (h1 : P + 2 ≤ 24) => two_any b off 24 cap P.toNat P l w' (HR.out.below hb) HL.out (by omega) (by omega) HC.out (by omega))
  have NN := Lib.hid (fun (w' : World) (hb : Below w.heap.size w w') => num_len (a := some ⟨b, off + 4, none⟩) (cap := cap - 4) (m := 4) (v := nat_ l 4 4) (((HR.out.drop 4 (a' := some ⟨b, off + 4, none⟩) (fun b' off' e _ => by injection e with e; injection e with e1 e2; subst e1 e2; rfl)).take 4).below hb) (by rw [List.length_take, List.length_drop, HL.out]; rfl) (by omega) rfl)
  clear hr hl
  have i4 : ¬ cap = 4 := by omega
  have hBW := HB.out
  go_enter Try.func21, Try.ntmps21
  go_wp2_with fail
  rw [HW.out]
  go_cut [4] from 9 to 24 (fun s4 wx => s4 = .pointer (some ⟨W.heap.size, 0, none⟩) ∧ Blk wx w.heap.size 24 #[.int .i64 0, .int .i64 0, .int .i64 0, .int .i64 0, .int .i64 0, .int .i64 0, .int .i64 0, .int .i64 0, .int .i64 0, .int .i64 0, .int .i64 0] ∧ Blk wx W.heap.size 24 #[.int .i64 (nat_ l 0 1), .int .i64 (nat_ l 2 2), .int .i64 (nat_ l 4 4), .int .i64 0, .int .i64 0, .int .i64 0, .int .i64 0, .int .i64 0, .int .i64 0, .int .i64 (nat_ l 20 2), .int .i64 (nat_ l 22 2)] ∧ Below w.heap.size w wx)
  case first =>
    go_region_held3 (fun w' => w'.cell? ⟨b, off, none⟩ = some (.int .u8 (nat_ l 0 1)) ∧ Below w.heap.size w w')
      ((go_split_ands; refine ⟨?_, ?_⟩ <;> first | assumption | exact Below.drew (by assumption) | exact (hBW.alloc hBW.size _).drew | exact Below.alloc (by assumption) (Below.size (by assumption)) _ | exact Below.setCell (by assumption) (by simp; omega) _ | go_keep))
      (first | (go_at_call 63; refine (TT.out _ _ ?_ ?_ ?_).mono ?_; (go_split_ands; assumption); decide; decide; rintro e w' ⟨rfl, rfl⟩) | (go_at_call 42; refine (NN.out _ ?_).mono ?_; (go_split_ands; assumption); rintro e w' ⟨rfl, rfl⟩))
    all_goals
      go_wp2_with fail
      go_meet
      have e1 : IntKind.i64.wrap (nat_ l 0 1) = nat_ l 0 1 := IntWalk.i64_in _ (by have := HU.out 0 1 (by omega); omega)
      have e2 : IntKind.i64.wrap (nat_ l 4 4) = nat_ l 4 4 := IntWalk.i64_in _ (by have := HU.out 4 4 (by omega); omega)
      rw [e1, e2]
      exact ⟨rfl, HB0.out.alloc _, Blk.new W _ _, (hBW.alloc hBW.size _).drew⟩
  case rest =>
    obtain ⟨rfl, hx0, hx1, hxb⟩ := hcut
    have HX0 := Lib.hid hx0
    have HX1 := Lib.hid hx1
    have HXB := Lib.hid hxb
    clear hx0 hx1 hxb NN c4 hc0 HW hBW
    go_wp2_with fail
    refine (TT.out 8 _ HXB.out (by decide) (by decide)).mono ?_
    rintro e w' ⟨rfl, rfl⟩
    go_wp2_with fail
    refine (TT.out 10 _ HXB.out (by decide) (by decide)).mono ?_
    rintro e w' ⟨rfl, rfl⟩
    go_wp2_with fail
    refine (TT.out 12 _ HXB.out (by decide) (by decide)).mono ?_
    rintro e w' ⟨rfl, rfl⟩
    go_wp2_with fail
    refine (TT.out 14 _ HXB.out (by decide) (by decide)).mono ?_
    rintro e w' ⟨rfl, rfl⟩
    go_wp2_with fail
    refine (TT.out 16 _ HXB.out (by decide) (by decide)).mono ?_
    rintro e w' ⟨rfl, rfl⟩
    go_wp2_with fail
    refine (TT.out 18 _ HXB.out (by decide) (by decide)).mono ?_
    rintro e w' ⟨rfl, rfl⟩
    obtain ⟨-, -, -, e3, e4, e5, e6, e7, e8, -, -⟩ := HX1.out.eleven
    have f3 := HX1.out.frozen 3
    have f4 := HX1.out.frozen 4
    have f5 := HX1.out.frozen 5
    have f6 := HX1.out.frozen 6
    have f7 := HX1.out.frozen 7
    have f8 := HX1.out.frozen 8
    go_upto_region 5 with (fail)
    clear e3 e4 e5 e6 e7 e8 f3 f4 f5 f6 f7 f8
    have hge : w.heap.size ≤ W.heap.size := Nat.le_of_lt HB0.out.lt
    have hne : w.heap.size ≠ W.heap.size := Nat.ne_of_lt HB0.out.lt
    obtain ⟨V, hV⟩ : ∃ V, ((((((wc.setCell ⟨W.heap.size, 3, none⟩ (.int .i64 (nat_ l 8 2))).setCell ⟨W.heap.size, 4, none⟩ (.int .i64 (nat_ l 10 2))).setCell ⟨W.heap.size, 5, none⟩ (.int .i64 (nat_ l 12 2))).setCell ⟨W.heap.size, 6, none⟩ (.int .i64 (nat_ l 14 2))).setCell ⟨W.heap.size, 7, none⟩ (.int .i64 (nat_ l 16 2))).setCell ⟨W.heap.size, 8, none⟩ (.int .i64 (nat_ l 18 2))) = V := ⟨_, rfl⟩
    have hp1 : Blk V W.heap.size 24 #[.int .i64 (nat_ l 0 1), .int .i64 (nat_ l 2 2), .int .i64 (nat_ l 4 4), .int .i64 (nat_ l 8 2), .int .i64 (nat_ l 10 2), .int .i64 (nat_ l 12 2), .int .i64 (nat_ l 14 2), .int .i64 (nat_ l 16 2), .int .i64 (nat_ l 18 2), .int .i64 (nat_ l 20 2), .int .i64 (nat_ l 22 2)] := by rw [← hV]; exact ((((((HX1.out.put 3 (.int .i64 (nat_ l 8 2))).put 4 (.int .i64 (nat_ l 10 2))).put 5 (.int .i64 (nat_ l 12 2))).put 6 (.int .i64 (nat_ l 14 2))).put 7 (.int .i64 (nat_ l 16 2))).put 8 (.int .i64 (nat_ l 18 2)))
    have hp0 : Blk V w.heap.size 24 #[.int .i64 0, .int .i64 0, .int .i64 0, .int .i64 0, .int .i64 0, .int .i64 0, .int .i64 0, .int .i64 0, .int .i64 0, .int .i64 0, .int .i64 0] := by rw [← hV]; exact ((((((HX0.out.far (p := ⟨W.heap.size, 3, none⟩) hne (.int .i64 (nat_ l 8 2))).far (p := ⟨W.heap.size, 4, none⟩) hne (.int .i64 (nat_ l 10 2))).far (p := ⟨W.heap.size, 5, none⟩) hne (.int .i64 (nat_ l 12 2))).far (p := ⟨W.heap.size, 6, none⟩) hne (.int .i64 (nat_ l 14 2))).far (p := ⟨W.heap.size, 7, none⟩) hne (.int .i64 (nat_ l 16 2))).far (p := ⟨W.heap.size, 8, none⟩) hne (.int .i64 (nat_ l 18 2)))
    have hpb : Below w.heap.size w V := by rw [← hV]; exact ((((((HXB.out.setCell (p := ⟨W.heap.size, 3, none⟩) hge (.int .i64 (nat_ l 8 2))).setCell (p := ⟨W.heap.size, 4, none⟩) hge (.int .i64 (nat_ l 10 2))).setCell (p := ⟨W.heap.size, 5, none⟩) hge (.int .i64 (nat_ l 12 2))).setCell (p := ⟨W.heap.size, 6, none⟩) hge (.int .i64 (nat_ l 14 2))).setCell (p := ⟨W.heap.size, 7, none⟩) hge (.int .i64 (nat_ l 16 2))).setCell (p := ⟨W.heap.size, 8, none⟩) hge (.int .i64 (nat_ l 18 2)))
    rw [hV]
    have P1 := Lib.hid hp1
    have P0 := Lib.hid hp0
    have PB := Lib.hid hpb
    have hb1 : V.cell? ⟨b, off + 1, none⟩ = some (.int .u8 (nat_ l 1 1)) := (hpb.cell (p := ⟨b, off + 1, none⟩) (block_lt_of_cell hc1.out)).trans hc1.out
    clear hp1 hp0 hpb hV hge hne HX0 HX1 HXB TT i4
    by_cases hy : nat_ l 1 1 = 0
    · rw [hy] at hb1
      have HRt := Lib.hid (fun w => irefright_any (rd l) w)
      obtain ⟨c0, c1, c2, c3, c4, c5, c6, c7, c8, c9, c10⟩ := P1.out.eleven
      by_cases hIR : IR (rd l)
      · have HV := Lib.hid (rdV_yes (l := l) hy hIR)
        rw [decide_eq_true hIR] at HRt
        unfold rd iv at HRt
        clear hIR
        go_wp2_with fail
        refine (HRt.out _).mono ?_
        rintro e W11 ⟨rfl, hb⟩
        have q1 := P1.out.below hb P1.out.lt
        have q0 := P0.out.below hb P0.out.lt
        have QB := Lib.hid (PB.out.trans (hb.mono PB.out.size))
        have Q0 := Lib.hid q0
        clear c0 c1 c2 c3 c4 c5 c6 c7 c8 c9 c10 hb hb1 P1 P0 PB
        obtain ⟨c0, c1, c2, c3, c4, c5, c6, c7, c8, c9, c10⟩ := q1.eleven
        obtain ⟨e0, e1, e2, e3, e4, e5, e6, e7, e8, e9, e10⟩ := q0.eleven
        have hf := fun j => q0.frozen j
        clear q1 q0
        go_wp2
        obtain ⟨x0, x1, x2, x3, x4, x5, x6, x7, x8, x9, x10⟩ := (ovI_blk (i := rd l) Q0.out).eleven
        have XB := ovI_below (i := rd l) QB.out (Nat.le_refl w.heap.size)
        unfold ovI rd at x0 x1 x2 x3 x4 x5 x6 x7 x8 x9 x10 XB
        simp only at x0 x1 x2 x3 x4 x5 x6 x7 x8 x9 x10 XB
        exact bodyPost_ret (v := .tuple #[iv (rd l), .int .i64 0]) (by simp [iv, rd, results, Try.results21, go_sem, x0, x1, x2, x3, x4, x5, x6, x7, x8, x9, x10]) rfl ⟨by rw [HV.out], XB⟩
      · have HV := Lib.hid (rdV_no (l := l) fun h => hIR h.2)
        rw [decide_eq_false hIR] at HRt
        unfold rd iv at HRt
        clear hIR
        go_wp2_with fail
        refine (HRt.out _).mono ?_
        rintro e W11 ⟨rfl, hb⟩
        have q0 := P0.out.below hb P0.out.lt
        have QB := Lib.hid (PB.out.trans (hb.mono PB.out.size))
        have Q0 := Lib.hid q0
        clear c0 c1 c2 c3 c4 c5 c6 c7 c8 c9 c10 hb hb1 P1 P0 PB
        obtain ⟨e0, e1, e2, e3, e4, e5, e6, e7, e8, e9, e10⟩ := q0.eleven
        have hf := fun j => q0.frozen j
        clear q0
        go_wp2
        obtain ⟨x0, x1, x2, x3, x4, x5, x6, x7, x8, x9, x10⟩ := (ovI_blk (i := zi) Q0.out).eleven
        have XB := ovI_below (i := zi) QB.out (Nat.le_refl w.heap.size)
        unfold ovI zi at x0 x1 x2 x3 x4 x5 x6 x7 x8 x9 x10 XB
        simp only at x0 x1 x2 x3 x4 x5 x6 x7 x8 x9 x10 XB
        exact bodyPost_ret (v := .tuple #[iv zi, .int .i64 51]) (by simp [iv, zi, results, Try.results21, go_sem, x0, x1, x2, x3, x4, x5, x6, x7, x8, x9, x10]) rfl ⟨by rw [HV.out], XB⟩
    · have HV := Lib.hid (rdV_no (l := l) fun h => hy h.1)
      have hy1 : (nat_ l 1 1 == 0) = false := by simpa using hy
      have hy2 : (nat_ l 1 1 != 0) = true := by simpa using hy
      obtain ⟨e0, e1, e2, e3, e4, e5, e6, e7, e8, e9, e10⟩ := P0.out.eleven
      have hf := fun j => P0.out.frozen j
      clear hy P1
      go_wp2
      obtain ⟨x0, x1, x2, x3, x4, x5, x6, x7, x8, x9, x10⟩ := (ovI_blk (i := zi) P0.out).eleven
      have XB := ovI_below (i := zi) PB.out (Nat.le_refl w.heap.size)
      unfold ovI zi at x0 x1 x2 x3 x4 x5 x6 x7 x8 x9 x10 XB
      simp only at x0 x1 x2 x3 x4 x5 x6 x7 x8 x9 x10 XB
      exact bodyPost_ret (v := .tuple #[iv zi, .int .i64 51]) (by simp [iv, zi, results, Try.results21, go_sem, x0, x1, x2, x3, x4, x5, x6, x7, x8, x9, x10]) rfl ⟨by rw [HV.out], XB⟩

end Go.Proofs.Ytolahkfjlifnoaa
