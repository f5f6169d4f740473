/-
  What the program's call Read answers, with the payload's room: it is the payload's length.
-/
import Derived.Test.YtbfifppdcmimaaaGreatTagRead
import Derived.Test.YtbfifppdcmimaaaGreatTagBeside
import Derived.Test.YtbfifppdcmimaaaGreatKA
import Derived.Laws.Rows
import Derived.Test.YtbfifppdcmimaaaGreatFtSl
import Derived.Test.YtbfifppdcmimaaaGreatFtRd
import Derived.Deep.RegionLaw
import Derived.Test.YtbfifppdcmimaaaGreatNA
import Derived.Laws.BitsAllLaws
import Derived.WalkSpells
import Derived.Deep.QuietTactic
import Derived.BigQuiet
import Derived.IntWalk
import Derived.Test.YtbfifppdcmimaaaGreatFtLk
namespace Go.Proofs.YtbfifppdcmimaaaGreat
open Go.RowKit Crcm Tagm Go.ChangeShapes
def RdC (w : World) (n : Nat) (l : List Int) (r : Ending) (w' : World) : Prop :=
  Below w.heap.size w w' ∧ ((¬ Vl n l ∧ r = .returned (Bad 21)) ∨
    (Vl n l ∧ ∃ A, r = .returned (.tuple #[tg (tk n l) (tp n l) (ts n l) (te n l), .slice A n n, .int .i64 0]) ∧ Rw w' A (l.take n)))

set_option maxRecDepth 100000 in
set_option maxHeartbeats 2000000 in
theorem read_cap (a : Option Addr) (n cap : Nat) (l : List Int) (w : World) (hs : Sz n) (hr : Rw w a l) (hl : l.length = n + 32) (hcap : n + 32 ≤ cap) (he : ¬ Er l) :
    Calls Tryz.prog 21 #[.slice a (n + 32) cap] w (RdC w n l) := by
  have HS := Lib.hid (fun w => sized_yes n w hs)
  have HSZ := Lib.hid hs
  have hn : n ≤ 512 := by unfold Sz at hs; omega
  have hn1 : 1 ≤ n := by unfold Sz at hs; omega
  have hE := Lib.hid (fun w' (hr : Rw w' a l) => erased_len (cap := cap) hr hl (decide_eq_false he))
  have HR := Lib.hid hr
  have HU := Lib.hid hr.1
  have HL := Lib.hid hl
  have st0 : St ((((w.alloc (.cells #[.int .i64 0, .int .u32 0, .int .u64 0, .int .u64 0] 61)).alloc (.cells #[.slice a (n + 32) cap] 23)).alloc (.cells #[.int .i64 0, .int .u32 0, .int .u64 0, .int .u64 0] 61))) w a (n + 32) cap 0 0 0 0 := by
    refine ⟨((Blk.new w _ _).alloc _).alloc _, ?_, ?_, (((Below.refl _ _).alloc (Nat.le_refl _) _).alloc (by simp) _).alloc (by simp; omega) _⟩
    · have := (Blk.new (w.alloc (.cells #[.int .i64 0, .int .u32 0, .int .u64 0, .int .u64 0] 61)) 23 #[.slice a (n + 32) cap]).alloc (.cells #[.int .i64 0, .int .u32 0, .int .u64 0, .int .u64 0] 61)
      simpa using this
    · have := Blk.new ((w.alloc (.cells #[.int .i64 0, .int .u32 0, .int .u64 0, .int .u64 0] 61)).alloc (.cells #[.slice a (n + 32) cap] 23)) 61 #[.int .i64 0, .int .u32 0, .int .u64 0, .int .u64 0]
      simpa using this
  obtain ⟨W0, hW0⟩ : ∃ W0, (((w.alloc (.cells #[.int .i64 0, .int .u32 0, .int .u64 0, .int .u64 0] 61)).alloc (.cells #[.slice a (n + 32) cap] 23)).alloc (.cells #[.int .i64 0, .int .u32 0, .int .u64 0, .int .u64 0] 61)) = W0 := ⟨_, rfl⟩
  rw [hW0] at st0
  have HW0 := Lib.hid hW0
  have HT0 := Lib.hid st0
  have HK := Lib.hid (tk_bd n l hr.1)
  have HP := Lib.hid (tp_bd n l hr.1)
  have HQ := Lib.hid (ts_bd n l hr.1)
  have HV := Lib.hid (te_bd n l hr.1)
  clear hs hr hl he hW0 st0
  go_enter Tryz.func21, Tryz.ntmps21
  go_wp2_with fail
  refine (HS.out _).mono ?_
  rintro r w1 ⟨rfl, rfl⟩
  go_wp2_with fail
  refine (hE.out _ (HR.out.below ((Below.refl _ _).alloc (Nat.le_refl _) _))).mono ?_
  rintro r w1 ⟨rfl, rfl⟩
  clear HS hE
  go_wp2_with fail
  rw [HW0.out]
  refine (take_st HT0.out HR.out HL.out hcap (by omega)).mono ?_
  rintro r W1 ⟨A1, rfl, t1, r1⟩
  have T1 := Lib.hid t1
  have R1 := Lib.hid r1
  clear t1 r1 HT0 HW0
  go_wp2_with fail
  refine (take_st (m := 2) T1.out R1.out (drop_len l n n (n + 32 - n) HL.out rfl) (by omega) (by omega)).mono ?_
  rintro r W2 ⟨A2, rfl, t2, r2⟩
  rw [List.drop_drop] at r2
  have T2 := Lib.hid t2
  have R2 := Lib.hid r2
  clear t2 r2 T1 R1
  go_wp2_with fail
  refine (take_st (m := 1) T2.out R2.out (drop_len l n (n + 2) (n + 32 - n - 2) HL.out (by omega)) (by omega) (by omega)).mono ?_
  rintro r W3 ⟨A3, rfl, t3, r3⟩
  rw [List.drop_drop] at r3
  have T3 := Lib.hid t3
  have R3 := Lib.hid r3
  have N3 := Lib.hid (fun c => number_len (cap := c) ((R2.out.take 1).below t3.bel) (by rw [List.length_take]; omega) (take_len l (n + 2) 1 (by have := HL.out; omega)) (nu_one l n (by have := HL.out; omega)))
  clear t3 r3 T2 R2
  go_wp2_with fail
  refine (N3.out _).mono ?_
  rintro r w' ⟨rfl, rfl⟩
  have kb := HK.out
  obtain ⟨k0, k1⟩ := kb
  have f3 := T3.out.b2.frozen 0
  have c3 := T3.out.b2.cell 0
  simp at c3
  go_wp2_with fail
  have t4 := st_put0 (x := tk n l) T3.out
  obtain ⟨W4, hW4⟩ : ∃ W4, W3.setCell ⟨w.heap.size + 1 + 1, 0, none⟩ (.int .i64 (tk n l)) = W4 := ⟨_, rfl⟩
  rw [hW4] at t4 ⊢
  have T4 := Lib.hid t4
  clear t4 hW4 T3 N3 f3 c3
  refine (take_st (m := 1) T4.out R3.out (drop_len l n (n + 3) (n + 32 - n - 2 - 1) HL.out (by omega)) (by omega) (by omega)).mono ?_
  rintro r W5 ⟨A5, rfl, t5, r5⟩
  rw [List.drop_drop] at r5
  have T5 := Lib.hid t5
  have R5 := Lib.hid r5
  clear t5 r5 T4 R3
  go_wp2_with fail
  refine (take_st (m := 4) T5.out R5.out (drop_len l n (n + 4) (n + 32 - n - 2 - 1 - 1) HL.out (by omega)) (by omega) (by omega)).mono ?_
  rintro r W6 ⟨A6, rfl, t6, r6⟩
  rw [List.drop_drop] at r6
  have T6 := Lib.hid t6
  have R6 := Lib.hid r6
  have N6 := Lib.hid (fun c => number_len (cap := c) (v := tp n l) ((R5.out.take 4).below t6.bel) (by rw [List.length_take]; omega) (take_len l (n + 4) 4 (by have := HL.out; omega)) rfl)
  clear t6 r6 T5 R5
  go_wp2_with fail
  refine (N6.out _).mono ?_
  rintro r w' ⟨rfl, rfl⟩
  have hw6 : IntKind.u32.wrap (tp n l) = tp n l := by obtain ⟨a, b⟩ := HP.out; rw [IntKind.wrap_u32]; omega
  have hp6 : tp n l % 4294967296 = tp n l := by obtain ⟨a, b⟩ := HP.out; omega
  have HW6 := Lib.hid hw6
  have HP6 := Lib.hid hp6
  have f6 := T6.out.b2.frozen 1
  have c6 := T6.out.b2.cell 1
  simp at c6
  clear hw6 hp6
  go_wp2_with fail
  rw [HP6.out]
  have t7 := st_put1 (x := tp n l) T6.out
  obtain ⟨W7, hW7⟩ : ∃ W7, W6.setCell ⟨w.heap.size + 1 + 1, 1, none⟩ (.int .u32 (tp n l)) = W7 := ⟨_, rfl⟩
  rw [hW7] at t7 ⊢
  have T7 := Lib.hid t7
  clear t7 hW7 T6 N6 f6 c6
  refine (take_st (m := 8) T7.out R6.out (drop_len l n (n + 8) (n + 32 - n - 2 - 1 - 1 - 4) HL.out (by omega)) (by omega) (by omega)).mono ?_
  rintro r W8 ⟨A8, rfl, t8, r8⟩
  rw [List.drop_drop] at r8
  have T8 := Lib.hid t8
  have R8 := Lib.hid r8
  have N8 := Lib.hid (fun c => number_len (cap := c) (v := ts n l) ((R6.out.take 8).below t8.bel) (by rw [List.length_take]; omega) (take_len l (n + 8) 8 (by have := HL.out; omega)) rfl)
  clear t8 r8 T7 R6
  go_wp2_with fail
  refine (N8.out _).mono ?_
  rintro r w' ⟨rfl, rfl⟩
  have f8 := T8.out.b2.frozen 2
  have c8 := T8.out.b2.cell 2
  simp at c8
  go_wp2_with fail
  have t9 := st_put2 (x := ts n l) T8.out
  obtain ⟨W9, hW9⟩ : ∃ W9, W8.setCell ⟨w.heap.size + 1 + 1, 2, none⟩ (.int .u64 (ts n l)) = W9 := ⟨_, rfl⟩
  rw [hW9] at t9 ⊢
  have T9 := Lib.hid t9
  clear t9 hW9 T8 N8 f8 c8
  refine (take_st (m := 8) T9.out R8.out (drop_len l n (n + 16) (n + 32 - n - 2 - 1 - 1 - 4 - 8) HL.out (by omega)) (by omega) (by omega)).mono ?_
  rintro r Wa ⟨Aa, rfl, ta, ra⟩
  have Ta := Lib.hid ta
  have Na := Lib.hid (fun c => number_len (cap := c) (v := te n l) ((R8.out.take 8).below ta.bel) (by rw [List.length_take]; omega) (take_len l (n + 16) 8 (by have := HL.out; omega)) rfl)
  clear ta ra T9 R8
  go_wp2_with fail
  refine (Na.out _).mono ?_
  rintro r w' ⟨rfl, rfl⟩
  have fa := Ta.out.b2.frozen 3
  have ca := Ta.out.b2.cell 3
  have ca0 := Ta.out.b2.cell 0
  have ca1 := Ta.out.b2.cell 1
  have ca2 := Ta.out.b2.cell 2
  simp at ca ca0 ca1 ca2
  go_wp2_with fail
  have tb := st_put3 (x := te n l) Ta.out
  obtain ⟨Wb, hWb⟩ : ∃ Wb, Wa.setCell ⟨w.heap.size + 1 + 1, 3, none⟩ (.int .u64 (te n l)) = Wb := ⟨_, rfl⟩
  rw [hWb] at tb ⊢
  have Tb := Lib.hid tb
  clear tb hWb Ta Na fa ca ca0 ca1 ca2
  by_cases hR : Rt (tk n l) (tp n l) (ts n l) (te n l)
  · refine (write_len (cap := cap) hR HSZ.out ((HR.out.take n).below Tb.out.bel) (by rw [List.length_take]; have := HL.out; omega)).mono ?_
    rintro r Wc ⟨v, rfl, hown, hbc⟩
    obtain ⟨a2, cap2, rfl, hr2, hl2, hcap2⟩ := Rw.of_own hown (pg_U8 _ _ _ _ _ (fun b hb => HU.out b (List.mem_of_mem_take hb)))
    have hrc := HR.out.below (Tb.out.bel.trans (hbc.mono Tb.out.bel.size))
    have hE := Lib.hid (fun c d => equal_any a2 a c d (n + 32) (n + 32) _ l Wc hr2 hrc hl2 HL.out)
    have HR2 := Lib.hid hr2
    have HAT := Lib.hid (own_at hown)
    have HBC := Lib.hid hbc
    have q0 := Tb.out.b0.below hbc Tb.out.b0.lt
    have q2 := Tb.out.b2.below hbc Tb.out.b2.lt
    have HQ0 := Lib.hid q0
    have HQ2 := Lib.hid q2
    have HRt := Lib.hid hR
    clear hown hr2 hl2 hrc hbc q0 q2 hR
    go_wp2_with fail
    refine (hE.out _ _).mono ?_
    rintro r w' ⟨rfl, rfl⟩
    by_cases hv : pg (tk n l) (tp n l) (ts n l) (te n l) (l.take n) = l
    · rw [decide_eq_true hv]
      have HV := Lib.hid hv
      clear hv hE
      have d0 := HQ2.out.cell 0
      have d1 := HQ2.out.cell 1
      have d2 := HQ2.out.cell 2
      have d3 := HQ2.out.cell 3
      have e0 := HQ0.out.cell 0
      have e1 := HQ0.out.cell 1
      have e2 := HQ0.out.cell 2
      have e3 := HQ0.out.cell 3
      have g0 := HQ0.out.frozen 0
      have g1 := HQ0.out.frozen 1
      have g2 := HQ0.out.frozen 2
      have g3 := HQ0.out.frozen 3
      simp at d0 d1 d2 d3 e0 e1 e2 e3
      go_wp2_with fail
      go_region
      go_wp2
      have X := ov_blk (k := tk n l) (p := tp n l) (s := ts n l) (e := te n l) HQ0.out
      have XB := ov_below (k := tk n l) (p := tp n l) (s := ts n l) (e := te n l) (Tb.out.bel.trans (HBC.out.mono Tb.out.bel.size)) (Nat.le_refl w.heap.size)
      have hlt := Tb.out.b0.lt
      have XR : Rw (ov Wc w.heap.size (tk n l) (tp n l) (ts n l) (te n l)) a2 (l.take n) := by
        have h := HR2.out
        rw [HV.out] at h
        exact (h.take n).far HAT.out fun b o hb => ov_far b o (by omega)
      have x0 := X.cell 0
      have x1 := X.cell 1
      have x2 := X.cell 2
      have x3 := X.cell 3
      simp at x0 x1 x2 x3
      unfold ov at x0 x1 x2 x3
      exact bodyPost_ret (v := .tuple #[tg (tk n l) (tp n l) (ts n l) (te n l), .slice a2 n n, .int .i64 0]) (by simp [tg, results, Tryz.results21, go_sem, x0, x1, x2, x3]) rfl ⟨XB.drew, .inr ⟨⟨HRt.out, HV.out⟩, a2, rfl, XR⟩⟩
    · rw [decide_eq_false hv]
      have HV := Lib.hid hv
      clear hv hE
      have d0 := HQ0.out.cell 0
      have d1 := HQ0.out.cell 1
      have d2 := HQ0.out.cell 2
      have d3 := HQ0.out.cell 3
      have g0 := HQ0.out.frozen 0
      have g1 := HQ0.out.frozen 1
      have g2 := HQ0.out.frozen 2
      have g3 := HQ0.out.frozen 3
      simp at d0 d1 d2 d3
      go_wp2
      have X := ov_blk (k := 0) (p := 0) (s := 0) (e := 0) HQ0.out
      have XB := ov_below (k := 0) (p := 0) (s := 0) (e := 0) (Tb.out.bel.trans (HBC.out.mono Tb.out.bel.size)) (Nat.le_refl w.heap.size)
      have x0 := X.cell 0
      have x1 := X.cell 1
      have x2 := X.cell 2
      have x3 := X.cell 3
      simp at x0 x1 x2 x3
      unfold ov at x0 x1 x2 x3
      exact bodyPost_ret (v := Bad 21) (by simp [Bad, tg, results, Tryz.results21, go_sem, x0, x1, x2, x3]) rfl ⟨XB, .inl ⟨fun h => HV.out h.2, rfl⟩⟩
  · refine (write_len_no (cap := cap) HP.out.1 hR (z := l.take n) (by rw [List.length_take]; have := HL.out; omega)).mono ?_
    rintro r Wc ⟨rfl, hbc⟩
    have q0 := Tb.out.b0.below hbc Tb.out.b0.lt
    have d0 := q0.cell 0
    have d1 := q0.cell 1
    have d2 := q0.cell 2
    have d3 := q0.cell 3
    have g0 := q0.frozen 0
    have g1 := q0.frozen 1
    have g2 := q0.frozen 2
    have g3 := q0.frozen 3
    simp at d0 d1 d2 d3
    have HBC := Lib.hid hbc
    have HRt := Lib.hid hR
    have HQ0 := Lib.hid q0
    clear hbc hR q0
    go_wp2
    have X := ov_blk (k := 0) (p := 0) (s := 0) (e := 0) HQ0.out
    have XB := ov_below (k := 0) (p := 0) (s := 0) (e := 0) (Tb.out.bel.trans (HBC.out.mono Tb.out.bel.size)) (Nat.le_refl w.heap.size)
    have x0 := X.cell 0
    have x1 := X.cell 1
    have x2 := X.cell 2
    have x3 := X.cell 3
    simp at x0 x1 x2 x3
    unfold ov at x0 x1 x2 x3
    exact bodyPost_ret (v := Bad 21) (by simp [Bad, tg, results, Tryz.results21, go_sem, x0, x1, x2, x3]) rfl ⟨XB, .inl ⟨fun h => HRt.out h.1, rfl⟩⟩

end Go.Proofs.YtbfifppdcmimaaaGreat
/-
  A translation without pages, as a seal tells of it. Nothing of one statement alone stands here.
-/
namespace Ftlm
open Go Crcm Tagm
theorem f64_or_nat (a b : Nat) (ha : a < 4611686018427387904) (hb : b < 4611686018427387904) : bits .or .i64 (a : Int) (b : Int) = ((a ||| b : Nat) : Int) := by
  have hx : a ||| b < 2 ^ 62 := Nat.or_lt_two_pow (by omega) (by omega)
  show IntKind.i64.wrap ((BitVec.ofInt 64 (a : Int) ||| BitVec.ofInt 64 (b : Int)).toNat : Int) = _
  rw [BitVec.toNat_or, ofInt_u64 a (by omega), ofInt_u64 b (by omega), IntKind.wrap_i64]
  omega
theorem for_low (x b : Int) (i : Nat) (hx : 0 ≤ x ∧ x < 256 ^ i) (hb : U8 b) (hi : i < 4) : bits .or .i64 x (IntKind.i64.wrap (b * 2 ^ (8 * i))) = x + 256 ^ i * b := by
  obtain ⟨b0, b1⟩ := hb
  obtain ⟨x0, x1⟩ := hx
  have e256 : (256 : Int) ^ i = 2 ^ (8 * i) := by rw [Int.pow_mul]; rfl
  have hp : (2 : Int) ^ (8 * i) ≤ 2 ^ 24 := by
    have : (2 : Nat) ^ (8 * i) ≤ 2 ^ 24 := Nat.pow_le_pow_right (by decide) (by omega)
    have h2 : ((2 ^ (8 * i) : Nat) : Int) ≤ ((2 ^ 24 : Nat) : Int) := by omega
    simpa using h2
  have hp0 : (0 : Int) < 2 ^ (8 * i) := Int.pow_pos (by decide)
  have hm : b * 2 ^ (8 * i) ≤ 255 * 2 ^ 24 := Int.mul_le_mul (by omega) hp (by omega) (by decide)
  have hm0 : 0 ≤ b * 2 ^ (8 * i) := Int.mul_nonneg b0 (by omega)
  have hw : IntKind.i64.wrap (b * 2 ^ (8 * i)) = b * 2 ^ (8 * i) := by rw [IntKind.wrap_i64]; omega
  have hx64 : x < 4611686018427387904 := by rw [e256] at x1; omega
  rw [hw]
  obtain ⟨n, rfl⟩ := Int.eq_ofNat_of_zero_le x0
  obtain ⟨m, rfl⟩ := Int.eq_ofNat_of_zero_le b0
  have hn : n < 2 ^ (8 * i) := by
    rw [e256] at x1
    have : ((n : Nat) : Int) < ((2 ^ (8 * i) : Nat) : Int) := by simpa using x1
    omega
  have e1 : ((m : Int) * 2 ^ (8 * i)) = ((m * 2 ^ (8 * i) : Nat) : Int) := by simp
  have e2 : m * 2 ^ (8 * i) < 4611686018427387904 := by omega
  show bits .or .i64 (n : Int) ((m : Int) * 2 ^ (8 * i)) = _
  rw [e1, f64_or_nat n _ (by omega) e2]
  have h2 := Nat.two_pow_add_eq_or_of_lt hn m
  rw [Nat.or_comm, Nat.mul_comm m, ← h2, e256]
  simp
  omega
end Ftlm
namespace Go.Proofs.YtbfifppdcmimaaaGreat
open Go.RowKit Crcm Gcm Ftlm Go.ChangeShapes Go.Maps

theorem wp_append_bytesF {w : World} {o : Oper} {a : Act} {K : Act → World → Prop} {Q : Exit → Act → World → Prop} (s x : Operand)
    (ho : o.op = .call { callee := .builtin .append, args := #[s, x], argTypes := #[23, 23] })
    (base : Nat) (v : Value) (n : Nat) (xs : List Int) (hs : a.eval s = v) (hown : w.ownsRow base 5 1 v n (xs.map (Value.int .u8)))
    (A : Option Addr) (m c : Nat) (l : List Int) (hx : a.eval x = .slice A m c) (hl : l.length = m) (hsrc : Src w A l) (h63 : n + m ≤ 1000000) (hbase : base ≤ w.heap.size)
    (h : ∀ v' w', w'.ownsRow base 5 1 v' (n + m) ((xs ++ l).map (Value.int .u8)) → Below base w w' → K (a.put o.dst v') w') : o.wp Tryz.prog a w K Q := by
  obtain ⟨i0, hi, hz0, hz1, hz2⟩ := info_parts Tryz.info8
  rcases hsrc with ⟨rfl, rfl⟩ | ⟨ad, rfl, hc⟩
  · simp at hl
    subst hl
    exact wp_append_nothing s x 23 ho base 5 i0 1 Tryz.underlying23 hi v n _ hs hown c hx (h v w (by simpa using hown) (Below.refl _ _))
  · refine wp_append_own w s x 23 ho base 5 i0 (.int .u8 0) 1 1 Tryz.underlying23 hi hz0 hz1 hz2 rfl (by decide) v n _ hs hown ad m c (l.map (Value.int .u8)) hx (by simp [hl]) ?_ ?_ (by unfold maxLen; omega) (by omega) hbase ?_
    · intro j u hu
      rw [List.getElem?_map] at hu
      by_cases hj : j < l.length
      · rw [hc j hj]
        simpa [hj] using hu
      · simp [List.getElem?_eq_none (by omega : l.length ≤ j)] at hu
    · intro u hu; obtain ⟨n, -, rfl⟩ := List.mem_map.1 hu; rfl
    · intro v' w' h1 h2 _
      rw [← List.map_append] at h1
      exact h v' w' h1 ((Below.refl _ _).grown h2 hbase (fun g hg => (hown.lt g hg).1))
theorem step_bytesF {ops : Array Oper} {o : Oper} {a : Act} {w : World} {K : Act → World → Prop} {Q : Exit → Act → World → Prop} {E : Prop}
    (hg : o.guard = none) (s x : Operand) (hop : o.op = Op.call { callee := Callee.builtin Builtin.append, args := #[s, x], argTypes := #[23, 23] })
    (base : Nat) (v : Value) (n : Nat) (xs : List Int) (hs : a.eval s = v) (hown : w.ownsRow base 5 1 v n (xs.map (Value.int .u8)))
    (A : Option Addr) (m c : Nat) (l : List Int) (hx : a.eval x = .slice A m c) (hl : l.length = m) (hsrc : Src w A l) (h63 : n + m ≤ 1000000) (hbase : base ≤ w.heap.size)
    (hK : ∀ v' w', w'.ownsRow base 5 1 v' (n + m) ((xs ++ l).map (Value.int .u8)) → Below base w w' → K (a.put o.dst v') w') :
    if Region.wanted o (yielded ops a.tmps) = true then Oper.wp Tryz.prog o a w K Q else E := by
  have hw : Region.wanted o (yielded ops a.tmps) = true := by simp [Region.wanted, hg]
  rw [if_pos hw]
  exact wp_append_bytesF s x hop base v n xs hs hown A m c l hx hl hsrc h63 hbase hK

theorem step_bytesN {ops : Array Oper} {o : Oper} {a : Act} {w : World} {K : Act → World → Prop} {Q : Exit → Act → World → Prop} {E : Prop}
    (hg : o.guard = none) (s x : Operand) (hop : o.op = Op.call { callee := Callee.builtin Builtin.append, args := #[s, x], argTypes := #[23, 23] })
    (hs : a.eval s = .slice none 0 0) (A : Option Addr) (m c : Nat) (l : List Int) (hx : a.eval x = .slice A m c) (hl : l.length = m) (hm : 0 < m ∧ m ≤ 1000) (hsrc : Src w A l) (hU : ∀ x ∈ l, U8 x)
    (hK : ∀ g cp w', Rw w' (some ⟨g, 0, none⟩) l → w.heap.size ≤ g → Below w.heap.size w w' → K (a.put o.dst (.slice (some ⟨g, 0, none⟩) m cp)) w') :
    if Region.wanted o (yielded ops a.tmps) = true then Oper.wp Tryz.prog o a w K Q else E := by
  refine step_bytesF hg s x hop w.heap.size (.slice none 0 0) 0 [] hs (World.ownsRow_nil _ _ _ _) A m c l hx hl hsrc (by omega) (Nat.le_refl _) ?_
  intro v' w' ho hb
  rw [Nat.zero_add, List.nil_append] at ho
  obtain ⟨g, cp, rfl, hg2, hc⟩ := own_shapeF ho hm.1
  obtain ⟨A2, c', e1, hR, -, -⟩ := Rw.of_own ho hU
  injection e1 with e1 e2 e3
  subst e1
  exact hK g cp w' hR hg2 hb

/-- what a translation out of a seal comes to -/
def FsP (w : World) (o : Own) (c : Ch) (res bad : Int) (p : List Int) (e : Ending) (w' : World) : Prop :=
  (∃ x1 x2 x3 x4 x5 x6 g cp, e = .returned (.tuple #[.pointer (some ⟨x6, 0, none⟩), .int .i64 0]) ∧
      Blk w' x6 58 (ftC o (.pointer none) res bad (((c.nb : Int) - bad - res - 1) * c.np - 2) false false (.slice (some ⟨g, 0, none⟩) (c.sz - 8) cp) x1 x2 x3 0 0 x4 x5 c.nb (.slice none 0 0) false 0) ∧
      Rw w' (some ⟨g, 0, none⟩) (p.drop 8) ∧ (x6 < g ∧ g < w'.heap.size) ∧
      MpAt w' x1 (fun _ => none) 0 ∧ MpAt w' x2 (fun _ => none) 0 ∧ MpAt w' x3 (fun _ => none) 0 ∧ Blk w' x4 4 (madeCells #[.bool false] c.nb) ∧ Blk w' x5 87 (madeCells #[.slice none 0 0] c.nb) ∧
      (w.heap.size ≤ x1 ∧ w.heap.size ≤ x2 ∧ w.heap.size ≤ x3 ∧ w.heap.size ≤ x4 ∧ w.heap.size ≤ x5) ∧ (x1 ≠ x2 ∧ x1 ≠ x3 ∧ x2 ≠ x3) ∧ (x1 < x6 ∧ x2 < x6 ∧ x3 < x6 ∧ x4 < x6 ∧ x5 < x6)) ∧ RdS o c 1 w w'

theorem FtFsq.below_dN {w0 w : World} {B : Nat} (h : Below B w0 w) (q : Nat) : Below B w0 (w.drewN q) := ⟨h.os, h.tape, h.output, h.size, h.block⟩
theorem IntKind.wrap_i64' (x : Int) : IntKind.i64.wrap (x * 2 ^ (8 * 1)) = wrap64 (x * 256) := by
  rw [IntKind.wrap_i64]
  unfold wrap64
  omega

set_option maxRecDepth 100000 in
set_option maxHeartbeats 4000000 in
theorem fromSeal_ok {w : World} {X : Nat → Prop} {o : Own} {c : Ch} (h : ChAt w X o c) {k i : Nat} (hk : rpE c k i = 0) (hv : Tagm.Vl c.sz (rdL c k i)) {p0 p1 p2 p3 : Int} {r : List Int} (hp : (rdL c k i).take c.sz = p0 :: p1 :: p2 :: p3 :: 0 :: 0 :: 0 :: 0 :: r)
    {res bad : Int} (hres : p0 + 256 * p1 = res) (hbad : p2 + 256 * p3 = bad) (h0 : res ≠ 0) (hb : bad ≤ nbd c.bad c.nb) (hd : 2 ≤ (c.nb : Int) - bad - res - 1) :
    Calls Tryz.prog 34 #[.pointer (some ⟨o.bc, 0, none⟩), pv ((k : Int), (i : Int))] w (FsP w o c res bad ((rdL c k i).take c.sz)) := by
  have hsz := h.good.2.2.2.2
  have hnb := h.good.2.1
  have HRe : Hid (Calls Tryz.prog 20 #[.pointer (some ⟨o.bc, 0, none⟩), .int .i64 k, .int .i64 i] (w.alloc (.cells #[.int .i64 k, .int .i64 i] 47)) fun e w' => (∃ g cc, e = .returned (.tuple #[.slice (some ⟨g, 0, none⟩) (c.sz + 32 : Nat) cc, .int .i64 0]) ∧ c.sz + 32 ≤ cc ∧ w.heap.size ≤ g ∧ Rw w' (some ⟨g, 0, none⟩) (rdL c k i) ∧ (rdL c k i).length = c.sz + 32) ∧ RdS o c 1 w w') := Lib.hid (by
    have hB : Below w.heap.size w (w.alloc (.cells #[.int .i64 (k : Int), .int .i64 (i : Int)] 47)) := (Below.refl _ _).alloc (Nat.le_refl _) _
    refine (read_bc (h.below hB) k i hk).mono ?_
    rintro e w' ⟨⟨g, cc, rfl, h1, h2, h3, h4⟩, -, h5⟩
    exact ⟨⟨g, cc, rfl, h1, Nat.le_trans hB.size h2, h3, h4⟩, ((RdS.refl o c w).new hB (Nat.le_refl _) (h.old _ (h.inX _ (.inl rfl)))).read h5⟩)
  have HH := Lib.hid h
  have HV := Lib.hid hv
  have HD := Lib.hid (And.intro hb (And.intro hd h0))
  generalize rdL c k i = l at HRe HV hp
  have HP := Lib.hid hp
  have HRb := Lib.hid (And.intro hres hbad)
  have hbk : Blk (w.alloc (.cells #[.int .i64 (k : Int), .int .i64 (i : Int)] 47)) w.heap.size 47 #[.int .i64 (k : Int), .int .i64 (i : Int)] := heap_alloc_new w _
  have k0 := hbk.cell 0
  have k1 := hbk.cell 1
  clear h hk hv hp hres hbad hb hd h0 hbk
  unfold pv
  go_enter Tryz.func34, Tryz.ntmps34
  go_wp2_with fail
  refine HRe.out.mono ?_
  rintro e w1 ⟨⟨g, cc, rfl, hcc, hg, hr, hrl⟩, hrd⟩
  have hs : Tagm.Sz c.sz := by unfold Tagm.Sz; omega
  have HT := Lib.hid (read_cap (some ⟨g, 0, none⟩) c.sz cc l w1 hs hr hrl hcc (Tagm.Vl_not_Er HV.out))
  have HRd := Lib.hid hrd
  clear hr hrl hs hrd HRe k0 k1
  go_wp2_with fail
  refine HT.out.mono ?_
  rintro e w2 ⟨hb2, hcase⟩
  rcases hcase with ⟨hnv, -⟩ | ⟨-, A, rfl, hr2⟩
  · exact absurd HV.out hnv
  unfold tg
  have hpl : (l.take c.sz).length = c.sz := by
    have := Tagm.pg_length (Tagm.tk c.sz l) (Tagm.tp c.sz l) (Tagm.ts c.sz l) (Tagm.te c.sz l) (l.take c.sz)
    rw [HV.out.2] at this
    rw [List.length_take] at this ⊢
    omega
  obtain ⟨b5, off5, rfl⟩ : ∃ b5 off5, A = some ⟨b5, off5, none⟩ := by
    obtain ⟨-, -, h0 | ⟨b, off, e, -⟩⟩ := hr2
    · rw [h0] at hpl
      simp at hpl
      omega
    · exact ⟨b, off, e⟩
  generalize Tagm.tk c.sz l = tk
  generalize Tagm.tp c.sz l = tp
  generalize Tagm.ts c.sz l = ts
  generalize Tagm.te c.sz l = te
  have hbA : Below w2.heap.size w2 (w2.alloc (.cells #[.int .i64 tk, .int .u32 tp, .int .u64 ts, .int .u64 te] 61)) := (Below.refl _ _).alloc (Nat.le_refl _) _
  have hr3 := hr2.below hbA
  have HR3 := Lib.hid hr3
  have hU := hr3.1
  have hcl : ∀ j, j < (l.take c.sz).length → (w2.alloc (.cells #[.int .i64 tk, .int .u32 tp, .int .u64 ts, .int .u64 te] 61)).cell? ⟨b5, off5 + j, none⟩ = some (.int .u8 ((l.take c.sz).getD j 0)) := by
    obtain ⟨-, -, h0 | ⟨b, off, e, hc⟩⟩ := hr3
    · rw [h0] at hpl
      simp at hpl
      omega
    · injection e with e
      injection e with e1 e2
      subst e1 e2
      exact hc
  rw [HP.out] at hcl hU
  have hlen8 : ∀ j, j < 8 → j < (p0 :: p1 :: p2 :: p3 :: 0 :: 0 :: 0 :: 0 :: r).length := fun j hj => by simp; omega
  have c0 := hcl 0 (hlen8 0 (by omega))
  have c1 := hcl 1 (hlen8 1 (by omega))
  have c2 := hcl 2 (hlen8 2 (by omega))
  have c3 := hcl 3 (hlen8 3 (by omega))
  have c4 := hcl 4 (hlen8 4 (by omega))
  have c5 := hcl 5 (hlen8 5 (by omega))
  have c6 := hcl 6 (hlen8 6 (by omega))
  have c7 := hcl 7 (hlen8 7 (by omega))
  simp only [List.getD_cons_zero, List.getD_cons_succ, Nat.add_zero] at c0 c1 c2 c3 c4 c5 c6 c7
  have u0 : U8 p0 := hU p0 (by simp)
  have u1 : U8 p1 := hU p1 (by simp)
  have u2 : U8 p2 := hU p2 (by simp)
  have u3 : U8 p3 := hU p3 (by simp)
  have HPl := Lib.hid hpl
  have HB3 := Lib.hid (hb2.alloc hb2.size (.cells #[.int .i64 tk, .int .u32 tp, .int .u64 ts, .int .u64 te] 61))
  have l0 : (0 : Int) < (c.sz : Int) := by omega
  have l1 : (1 : Int) < (c.sz : Int) := by omega
  have l2 : (2 : Int) < (c.sz : Int) := by omega
  have l3 : (3 : Int) < (c.sz : Int) := by omega
  have l4 : (4 : Int) < (c.sz : Int) := by omega
  have l5 : (5 : Int) < (c.sz : Int) := by omega
  have l6 : (6 : Int) < (c.sz : Int) := by omega
  have l7 : (7 : Int) < (c.sz : Int) := by omega
  clear hbA hr3 hU hcl hlen8 hr2 hb2 HT hpl
  go_wp2_with fail
  generalize w2.alloc (.cells #[.int .i64 tk, .int .u32 tp, .int .u64 ts, .int .u64 te] 61) = W3 at c0 c1 c2 c3 c4 c5 c6 c7 HB3 HR3 ⊢
  have l00 : 0 < c.sz := by omega
  have v0 : IntKind.i64.wrap p0 = p0 := by rw [IntKind.wrap_i64]; unfold U8 at u0; omega
  have v0' : wrap64 p0 = p0 := by unfold U8 at u0; exact IntWalk.wrap64_in _ (by omega)
  have v1 : wrap64 p1 = p1 := by unfold U8 at u1; exact IntWalk.wrap64_in _ (by omega)
  have v2 : wrap64 p2 = p2 := by unfold U8 at u2; exact IntWalk.wrap64_in _ (by omega)
  have v3 : wrap64 p3 = p3 := by unfold U8 at u3; exact IntWalk.wrap64_in _ (by omega)
  have vR : bits .or .i64 p0 (wrap64 (p1 * 256)) = res := by
    have e := for_low p0 p1 1 (by unfold U8 at u0; omega) u1 (by omega)
    rw [IntKind.wrap_i64'] at e
    rw [← HRb.out.1]
    exact e
  have vB : bits .or .i64 p2 (wrap64 (p3 * 256)) = bad := by
    have e := for_low p2 p3 1 (by unfold U8 at u2; omega) u3 (by omega)
    rw [IntKind.wrap_i64'] at e
    rw [← HRb.out.2]
    exact e
  have hRb : 0 ≤ res ∧ res ≤ 70000 ∧ 0 ≤ bad ∧ bad ≤ 70000 := by
    have a := HRb.out.1
    have b := HRb.out.2
    unfold U8 at u0 u1 u2 u3
    omega
  have vZ : (bits BinOp.or IntKind.u8 (bits BinOp.or IntKind.u8 (bits BinOp.or IntKind.u8 0 0) 0) 0 == 0) = true := by decide
  have d0 : (res == 0) = false := beq_eq_false_iff_ne.2 HD.out.2.2
  have hnbl := nbd_le c.bad c.nb
  have d1 : decide (((nbd c.bad c.nb : Nat) : Int) < bad) = false := decide_eq_false (by have := HD.out.1; omega)
  have d2 : decide ((c.nb : Int) - bad - res - 1 < 2) = false := decide_eq_false (by have := HD.out.2.1; omega)
  have HB4 : Hid (∀ W, Below W3.heap.size W3 W → RdS o c 1 w W) := Lib.hid (fun W hW => HRd.out.new (HB3.out.trans (hW.mono HB3.out.size)) HRd.out.1.size (HH.out.old _ (HH.out.inX _ (.inl rfl))))
  have HC4 : Hid (∀ W, Below W3.heap.size W3 W → ChAt W X o (chR c 1)) := Lib.hid (fun W hW => HH.out.rds0 (HB4.out W hW))
  have HBd : Hid (∀ W, Below W3.heap.size W3 W → Calls Tryz.prog 26 #[.pointer (some ⟨o.bc, 0, none⟩)] W fun e w' => e = .returned (.int .i64 (nbd c.bad c.nb)) ∧ Below W.heap.size W w') := Lib.hid (fun W hW => badBlocks_any (c := chR c 1) (HC4.out W hW))
  have HGe := Lib.hid (fun W hW => geo_any (c := chR c 1) (HC4.out W hW))
  have hop : o.p = .pointer (some ⟨o.bc, 0, none⟩) := rfl
  rw [hop] at HGe
  clear hop
  have HDb := Lib.hid (fun W => dataBlocks_any c.nb c.np c.sz bad res W (by omega) (by omega) (by omega))
  have HTr := Lib.hid (fun W hW => translation_any (c := chR c 1) (HC4.out W hW) res bad (by omega) (by omega))
  have en1 : (chR c 1).nb = c.nb := rfl
  have en2 : (chR c 1).np = c.np := rfl
  have en3 : (chR c 1).sz = c.sz := rfl
  rw [en1, en2, en3] at HGe
  rw [en1, en2] at HTr
  clear en1 en2 en3
  have HRbb := Lib.hid hRb
  clear hRb
  have HQ0 : Hid (Below W3.heap.size W3 W3) := Lib.hid (Below.refl _ _)
  go_quiet (fail)
  have HQ1 := Lib.hid (FtFsq.below_dN HQ0.out nq)
  go_wp2_with fail
  go_quiet (fail)
  have HQ2 := Lib.hid (FtFsq.below_dN HQ1.out nq)
  simp only [World.drewN_drewN] at HQ2
  go_wp2_with fail
  generalize W3.drewN _ = W4 at HQ2 ⊢
  refine (HBd.out _ HQ2.out).mono ?_
  rintro e w5 ⟨rfl, hb5⟩
  have HQ5 := Lib.hid (HQ2.out.trans (hb5.mono HQ2.out.size))
  clear hb5
  go_wp2_with fail
  refine (HGe.out _ HQ5.out).mono ?_
  rintro e w6 ⟨rfl, hb6⟩
  have HQ6 := Lib.hid (HQ5.out.trans (hb6.mono HQ5.out.size))
  clear hb6
  go_wp2_with fail
  refine (HDb.out _).mono ?_
  rintro e w7 ⟨rfl, hb7⟩
  have HQ7 := Lib.hid (HQ6.out.trans (hb7.mono HQ6.out.size))
  clear hb7
  go_wp2_with fail
  refine (HTr.out _ HQ7.out).mono ?_
  rintro e w8 ⟨⟨x1, x2, x3, x4, x5, x6, rfl, hF, hm1, hm2, hm3, h4, h5, hge, hne, hlt⟩, hb8⟩
  have HQ8 := Lib.hid (HQ7.out.trans (hb8.mono HQ7.out.size))
  have f7 : w8.cell? ⟨x6, 7, none⟩ = some (.slice none 0 0) := (hF.cell 7).trans rfl
  have HRow := Lib.hid (HR3.out.below HQ8.out)
  have hx6 : W3.heap.size ≤ x1 := Nat.le_trans HQ7.out.size hge.1
  have hx7 : x1 < x6 := hlt.1
  have HBb : Hid (Blk w8.drew x6 58 (ftC o (.pointer none) res bad (((c.nb : Int) - bad - res - 1) * c.np - 2) false false (.slice none 0 0) x1 x2 x3 0 0 x4 x5 c.nb (.slice none 0 0) false 0) ∧ W3.heap.size < x6) := Lib.hid ⟨hF.below ((Below.refl _ _).drew) hF.lt, by omega⟩
  have HSz : Hid (x6 < w8.drew.heap.size) := Lib.hid hF.lt
  have HM8 := Lib.hid (And.intro hm1 (And.intro hm2 (And.intro hm3 (And.intro h4 h5))))
  have HIq := Lib.hid (And.intro hge (And.intro hne hlt))
  have HSr : Hid (Src w8.drew (some ⟨b5, off5 + 8, none⟩) ((l.take c.sz).drop 8)) := Lib.hid (((HRow.out.below ((Below.refl _ _).drew)).drop 8 (a' := some ⟨b5, off5 + 8, none⟩) (fun b off e _ => by injection e with e; injection e with e1 e2; subst e1 e2; rfl)).src)
  have HLn : Hid (((l.take c.sz).drop 8).length = c.sz - 8) := Lib.hid (by rw [List.length_drop, HPl.out])
  have hU8 := HR3.out.1
  have hl8 : 8 ≤ c.sz := by omega
  have hl8' : (8 : Int) ≤ (c.sz : Int) := by omega
  have hn8 : c.sz ≠ 8 := by omega
  have f7z := hF.frozen 7
  have HU8 : Hid (∀ x ∈ (l.take c.sz).drop 8, U8 x) := Lib.hid (fun x hx => hU8 x (List.mem_of_mem_drop hx))
  have HM : Hid (0 < c.sz - 8 ∧ c.sz - 8 ≤ 1000) := Lib.hid (by omega)
  have HX3 : Hid (W3.heap.size ≤ x1 ∧ x1 < x6) := Lib.hid ⟨hx6, hx7⟩
  clear hF hm1 hm2 hm3 h4 h5 hge hne hlt hb8
  clear hx6 hx7
  go_wp2_with fail
  go_region_law (refine step_bytesN rfl (.tmp 99) (.tmp 101) rfl (by simp [Act.eval]) (some ⟨b5, off5 + 8, none⟩) (c.sz - 8) (c.sz - 8) ((l.take c.sz).drop 8) (by simp [Act.eval]) HLn.out HM.out HSr.out HU8.out ?_; intro g9 cp9 w9 hR9 hg9 hb9; have hF9 := HBb.out.1.below hb9 HSz.out; have y7 : w9.cell? ⟨x6, 7, none⟩ = some (.slice none 0 0) := (hF9.cell 7).trans rfl; have z7 := hF9.frozen 7)
  all_goals
    have hbD : Below w8.heap.size w8 w8.drew := (Below.refl _ _).drew
    have hx1l : W3.heap.size ≤ w9.heap.size := Nat.le_trans HQ8.out.size (Nat.le_trans hbD.size hb9.size)
    have hRd9 := HB4.out _ ((HQ8.out.trans (hbD.mono HQ8.out.size)).trans (hb9.mono (Nat.le_trans HQ8.out.size hbD.size)))
    have hRdA := hRd9.new ((Below.refl w.heap.size w9).setCell (p := ⟨x6, 7, none⟩) (by have := HRd.out.1.size; have := HB3.out.size; have := HBb.out.2; show w.heap.size ≤ x6; omega) (.slice (some ⟨g9, 0, none⟩) (c.sz - 8) cp9)) (Nat.le_refl _) (HH.out.old _ (HH.out.inX _ (.inl rfl)))
  have hW := HM8.out
  obtain ⟨hm1, hm2, hm3, h4, h5⟩ := hW
  obtain ⟨⟨q1, q2, q3, q4, q5⟩, ⟨n12, n13, n14, n15, n23, n24, n25, n34, n35, n45⟩, ⟨y1, y2, y3, y4, y5⟩⟩ := HIq.out
  have hbE : Below w8.heap.size w8 w9 := hbD.trans (hb9.mono hbD.size)
  have hK : Kp (fun b => b = x6) w9 (w9.setCell ⟨x6, 7, none⟩ (.slice (some ⟨g9, 0, none⟩) (c.sz - 8) cp9)) := Kp.one w9 ⟨x6, 7, none⟩ _
  have hg9' : w8.heap.size ≤ g9 := Nat.le_trans hbD.size hg9
  have hxl : x6 < w8.heap.size := HSz.out
  have r1 := (hm1.below hbE).kp hK (show ¬ x1 = x6 by omega)
  have r2 := (hm2.below hbE).kp hK (show ¬ x2 = x6 by omega)
  have r3 := (hm3.below hbE).kp hK (show ¬ x3 = x6 by omega)
  have r4 := (h4.below hbE h4.lt).kp hK (show ¬ x4 = x6 by omega)
  have r5 := (h5.below hbE h5.lt).kp hK (show ¬ x5 = x6 by omega)
  have r6 := hF9.put 7 (.slice (some ⟨g9, 0, none⟩) (c.sz - 8) cp9)
  have r7 := ((hR9.toX (X := fun b => b = x6) (show ¬ g9 = x6 by omega)).kp hK (fun b hb => hb)).1
  have hgl : g9 < (w9.setCell ⟨x6, 7, none⟩ (.slice (some ⟨g9, 0, none⟩) (c.sz - 8) cp9)).heap.size := by
    refine Nat.lt_of_lt_of_le ?_ hK.size
    rcases hR9.2.2 with q | ⟨b, off, e, q⟩
    · have z := HLn.out
      have z2 := HM.out
      rw [q, List.length_nil] at z
      omega
    · injection e with e
      injection e with e1 e2
      subst e1
      exact block_lt_of_cell (q 0 (by have := HLn.out; have := HM.out; omega))
  have hw3 : w.heap.size ≤ W3.heap.size := Nat.le_trans HRd.out.1.size HB3.out.size
  have hw7 : W3.heap.size ≤ w7.heap.size := HQ7.out.size
  have HEnd : Hid (FsP w o c res bad (l.take c.sz) (.returned (.tuple #[.pointer (some ⟨x6, 0, none⟩), .int .i64 0])) (w9.setCell ⟨x6, 7, none⟩ (.slice (some ⟨g9, 0, none⟩) (c.sz - 8) cp9))) := Lib.hid (by
    refine ⟨⟨x1, x2, x3, x4, x5, x6, g9, cp9, rfl, r6, r7, ⟨by omega, hgl⟩, r1, r2, r3, r4, r5, ⟨by omega, by omega, by omega, by omega, by omega⟩, ⟨n12, n13, n23⟩, ⟨y1, y2, y3, y4, y5⟩⟩, hRdA⟩)
  clear hRdA r1 r2 r3 r4 r5 r6 r7
  apply_assumption
  go_wp2
  go_ret2
  exact HEnd.out
end Go.Proofs.YtbfifppdcmimaaaGreat
/-
  Which blocks hold what is not to come back, where no page is suspect. Nothing of one statement alone stands here.
-/
namespace Go.Proofs.YtbfifppdcmimaaaGreat
open Go.RowKit Crcm Gcm Ftlm Go.ChangeShapes Go.Maps

theorem sp_step (last : Int) (ep : Nat → Int) (k : Nat) : up1 (fun j => if j < k then decide (last < ep j) else false) k (decide (last < ep k)) = fun j => if j < k + 1 then decide (last < ep j) else false := by
  funext j
  unfold up1
  by_cases e : j = k
  · subst e
    simp
  · by_cases e2 : j < k
    · simp [e, e2, show j < k + 1 by omega]
    · simp [e, e2, show ¬ j < k + 1 by omega]
set_option maxRecDepth 100000 in
set_option maxHeartbeats 4000000 in
theorem suspect_none {w : World} {F x1 n1 x4 nb B S gF gE mb nq : Nat} {se : Int → Option (Int × Int)} {q : Int → Option Int} {s : Sn} (hsc : ScAt w B S gF gE nb s) (hL : s.L.length ≤ 5000) (hok : ∀ f ∈ s.L, f.ok) (hnb : nb < 129)
    (h8 : w.cell? ⟨F, 8, none⟩ = some (.map (some x1))) (h13 : w.cell? ⟨F, 13, none⟩ = some (.slice (some ⟨x4, 0, none⟩) nb nb)) {cs0 : Array Value} {TF : TypeId} (hFb : Blk w F TF cs0) (hTF : TF ≠ 4) (hfr : FrR w x4 nb (fun _ => false)) (hm : MpAt w x1 (plM se) n1) (hmq : MpAt w mb (umM q) nq)
    (hno : ∀ f ∈ s.L, (se f.pg).isSome = true → f.pg ≠ 0 → cts s.last f.kd f.ep = true → ¬ f.sq < (q f.pg).getD 0) :
    Calls Tryz.prog 35 #[.pointer (some ⟨F, 0, none⟩), .pointer (some ⟨S, 0, none⟩), .map (some mb)] w fun e w' => e = .returned (.tuple #[]) ∧ FrR w' x4 nb (fun j => decide (s.last < s.ep j)) ∧ Kp (fun b => b = x4) w w' := by
  obtain ⟨v, hb, hr⟩ := hsc.blk
  obtain ⟨A, cp, rfl⟩ := hr.form
  obtain ⟨cE, hE, -, hE2⟩ := hsc.ep
  obtain ⟨c4, h4, h4s, h42⟩ := hfr
  have s2 : w.cell? ⟨S, 2, none⟩ = some (.slice (some ⟨gE, 0, none⟩) nb nb) := (hb.cell 2).trans rfl
  have hS4 : ¬ S = x4 := hb.ne h4 (by decide)
  have hE4 : ¬ gE = x4 := hE.ne h4 (by decide)
  have hF4 : ¬ F = x4 := hFb.ne h4 hTF
  have hm4 : ¬ x1 = x4 := hm.ne h4
  have hq4 : ¬ mb = x4 := hmq.ne h4
  have HKp : Hid (∀ W, Kp (fun b => b = x4) w W → (W.cell? ⟨F, 13, none⟩ = some (.slice (some ⟨x4, 0, none⟩) nb nb) ∧ W.cell? ⟨F, 8, none⟩ = some (.map (some x1)) ∧ W.cell? ⟨S, 3, none⟩ = some (.int .u64 s.last) ∧ W.cell? ⟨S, 0, none⟩ = some (.slice A s.L.length cp)) ∧ (∀ j, j < nb → W.cell? ⟨gE, j, none⟩ = some (.int .u64 (s.ep j))) ∧ MpAt W x1 (plM se) n1 ∧ MpAt W mb (umM q) nq ∧ FoR W B (.slice A s.L.length cp) s.L) := Lib.hid (fun W hk => by
    refine ⟨⟨(hk.cell (p := ⟨F, 13, none⟩) hFb.lt hF4).trans h13, (hk.cell (p := ⟨F, 8, none⟩) hFb.lt hF4).trans h8, (hk.cell (p := ⟨S, 3, none⟩) hb.lt hS4).trans ((hb.cell 3).trans rfl), (hk.cell (p := ⟨S, 0, none⟩) hb.lt hS4).trans ((hb.cell 0).trans rfl)⟩, fun j hj => (hk.cell (p := ⟨gE, j, none⟩) hE.lt hE4).trans ((hE.cell j).trans (hE2 j hj)), hm.kp hk hm4, hmq.kp hk hq4, ?_⟩
    obtain ⟨r1, r2⟩ := hr
    refine ⟨r1, ?_⟩
    rcases r2 with r2 | ⟨g, cap, cur, e, hg, hh, r⟩
    · exact .inl r2
    · have hB : Blk w g 124 cur := hh
      exact .inr ⟨g, cap, cur, e, hg, (hk.block g hB.lt (fun e => hB.ne h4 (by decide) e)).trans hh, r⟩)
  have HF0 : Hid (FrR w x4 nb (fun j => if j < 0 then decide (s.last < s.ep j) else false)) := Lib.hid ⟨c4, h4, h4s, fun j hj => by rw [h42 j hj]; simp⟩
  have HOk := Lib.hid hok
  have HNo := Lib.hid hno
  clear hsc hb hr hE hE2 h4 h4s h42 hm hmq h8 h13 hFb hok hno hS4 hE4 hF4 hm4 hq4
  go_enter Tryz.func35, Tryz.ntmps35
  go_wp2_with fail
  go_loopw [18] (fun i wr => ∃ k : Nat, k ≤ nb ∧ i = .int .i64 k ∧ Hid (FrR wr x4 nb (fun j => if j < k then decide (s.last < s.ep j) else false)) ∧ Hid (Kp (fun b => b = x4) w wr)) (fun i _ => nb - (intOf i).toNat)
  case atStart => exact ⟨0, by omega, rfl, HF0, Lib.hid (Kp.refl _ _)⟩
  case round =>
    obtain ⟨k, hk, rfl, hF, hK⟩ := hrel
    by_cases hlt : k < nb
    · have kl : (k : Int) < (nb : Int) := by omega
      obtain ⟨⟨f13, f8, s3, s0⟩, hee, -⟩ := HKp.out wr hK.out
      have e0 := hee k hlt
      obtain ⟨c9, q1, q2, q3⟩ := hF.out
      have y4 := (q1.cell k).trans (q3 k hlt)
      have z4 := q1.frozen k
      have HF2 := Lib.hid (hF.out.put k hlt (decide (s.last < s.ep k)))
      have HK2 := Lib.hid ((hK.out.setCell (p := ⟨x4, k, none⟩) (.inl rfl) (.bool (decide (s.last < s.ep k)))))
      rw [sp_step] at HF2
      clear q1 q2 q3 hF hK hee f8 s0
      go_wp2_with fail
      go_region
      have HF3 := Lib.hid (HF2.out.kp (F := fun _ => False) ((Kp.refl _ _).drew) (fun e => e))
      have HK3 := Lib.hid (HK2.out.drew)
      go_wp2
      go_roundw
      case rel => exact ⟨k + 1, by omega, by go_num, HF3, HK3⟩
      case measure => simp [intOf]; omega
    · have kl : ¬ (k : Int) < (nb : Int) := by omega
      have ek : k = nb := by omega
      rw [ek] at hF
      have HFe : Hid (FrR wr x4 nb (fun j => decide (s.last < s.ep j))) := Lib.hid (by
        obtain ⟨c9, q1, q2, q3⟩ := hF.out
        exact ⟨c9, q1, q2, fun j hj => by rw [q3 j hj]; simp [hj]⟩)
      obtain ⟨⟨f13, f8, s3, s0⟩, -, -⟩ := HKp.out wr hK.out
      obtain ⟨n, hn⟩ : ∃ n, s.L.length = n := ⟨_, rfl⟩
      have HN := Lib.hid hn
      rw [hn] at s0 hL
      clear hn hF f13 f8 s3
      go_wp2_with fail
      obtain ⟨V, rfl⟩ : ∃ V, V = wr := ⟨_, rfl⟩
      go_loopw [41] (fun i wr2 => ∃ j : Nat, j ≤ n ∧ i = .int .i64 j ∧ Hid (Below V.heap.size V wr2)) (fun i _ => n - (intOf i).toNat)
      case atStart => exact ⟨0, by omega, rfl, Lib.hid (Below.refl _ _)⟩
      case round =>
        obtain ⟨j, hj, rfl, hbj⟩ := hrel
        by_cases hlt : j < n
        · have hjl : j < s.L.length := by rw [HN.out]; exact hlt
          have jl : (j : Int) < (n : Int) := by omega
          have hKj : Kp (fun b => b = x4) w wr := hK.out.trans (Kp.of_below hbj.out)
          obtain ⟨⟨-, f8, s3, -⟩, -, hmj, hqj, hrj⟩ := HKp.out wr hKj
          obtain ⟨g, c, e1, hat⟩ := hrj.at hjl
          injection e1 with e1 _ ec
          subst e1
          subst ec
          have hfo := HOk.out s.L[j] (List.getElem_mem hjl)
          have hnf := HNo.out s.L[j] (List.getElem_mem hjl)
          generalize s.L[j] = f at hat hfo hnf
          obtain ⟨fk, fi, fd, fp, fs, fe⟩ := f
          have hfp : 0 ≤ fp ∧ fp < 4294967296 := by have := hfo.2.2.2.1; simp only at this; omega
          simp only [FoA] at hat
          simp only at hnf
          obtain ⟨d0, d1, d2, d3, d4, d5⟩ := hat
          obtain ⟨Qb, hQ⟩ : ∃ Q, wr.heap.size = Q := ⟨_, rfl⟩
          have hBa := (Below.refl wr.heap.size wr).alloc (Nat.le_refl _) (.cells #[.int .i64 fk, .int .i64 fi, .int .i64 fd, .int .u32 fp, .int .u64 fs, .int .u64 fe] 124)
          have hbQ : Blk (wr.alloc (.cells #[.int .i64 fk, .int .i64 fi, .int .i64 fd, .int .u32 fp, .int .u64 fs, .int .u64 fe] 124)) Qb 124 #[.int .i64 fk, .int .i64 fi, .int .i64 fd, .int .u32 fp, .int .u64 fs, .int .u64 fe] := by rw [← hQ]; exact heap_alloc_new wr _
          have q3 := hbQ.cell 3
          have f8a := (hBa.cell (block_lt_of_cell f8)).trans f8
          have hlk := look_pl (hmj.below hBa) hfp
          obtain ⟨⟨ak, ai⟩, hak⟩ : ∃ p, (se fp).getD (0, 0) = p := ⟨_, rfl⟩
          rw [hak] at hlk
          have hBb := hBa.alloc hBa.size (.cells #[.int .i64 ak, .int .i64 ai] 47)
          have hbQ2 := hbQ.alloc (.cells #[.int .i64 ak, .int .i64 ai] 47)
          have r1 := hbQ2.cell 2
          have r2 := hbQ2.cell 3
          have r3 := hbQ2.cell 4
          have r4 := hbQ2.cell 5
          have HCt := Lib.hid (counts_any S s.last fd fp fs fe ((wr.alloc (.cells #[.int .i64 fk, .int .i64 fi, .int .i64 fd, .int .u32 fp, .int .u64 fs, .int .u64 fe] 124)).alloc (.cells #[.int .i64 ak, .int .i64 ai] 47)) ((hBb.cell (block_lt_of_cell s3)).trans s3))
          unfold tg at HCt
          have HBb := Lib.hid hBb
          have HQ2 := Lib.hid hbQ2
          have Hqm := Lib.hid hqj
          unfold pv at hlk
          clear hBa hbQ hBb hbQ2 hmj hqj hrj hak s3
          generalize hsm : (se fp).isSome = sm at hlk hnf
          cases sm with
          | false =>
            have HBe := Lib.hid (hbj.out.trans (HBb.out.mono hbj.out.size))
            clear HCt hnf hsm
            go_wp2
            go_roundw
            case rel => exact ⟨j + 1, by omega, by go_num, HBe⟩
            case measure => simp [intOf]; omega
          | true =>
            by_cases hp0 : fp = 0
            · have hpn : (fp != 0) = false := by rw [hp0]; rfl
              have HBe := Lib.hid (hbj.out.trans (HBb.out.mono hbj.out.size))
              clear HCt hnf hsm hp0
              go_wp2
              go_roundw
              case rel => exact ⟨j + 1, by omega, by go_num, HBe⟩
              case measure => simp [intOf]; omega
            · have hpn : (fp != 0) = true := bne_iff_ne.2 hp0
              generalize hct : cts s.last fd fe = ct at HCt hnf
              have hnf2 := hnf rfl hp0
              clear hnf hsm hct hp0
              go_wp2_with fail
              refine HCt.out.mono ?_
              rintro e w3 ⟨rfl, hb3⟩
              have HBe := Lib.hid ((hbj.out.trans (HBb.out.mono hbj.out.size)).trans (hb3.mono (hbj.out.trans (HBb.out.mono hbj.out.size)).size))
              have hQ3 := HQ2.out.below hb3 HQ2.out.lt
              have u4 := hQ3.cell 4
              have hg3 := get_um (Hqm.out.below (HBb.out.trans (hb3.mono HBb.out.size))) hfp
              cases ct with
              | false =>
                clear HCt hnf2 hb3 hQ3
                go_wp2
                go_roundw
                case rel => exact ⟨j + 1, by omega, by go_num, HBe⟩
                case measure => simp [intOf]; omega
              | true =>
                have hlt2 : decide (fs < (q fp).getD 0) = false := decide_eq_false (by have := hnf2 rfl; omega)
                clear HCt hnf2 hb3 hQ3
                go_wp2
                go_roundw
                case rel => exact ⟨j + 1, by omega, by go_num, HBe⟩
                case measure => simp [intOf]; omega
        · have jl : ¬ (j : Int) < (n : Int) := by omega
          have HE : Hid (FrR wr x4 nb (fun j => decide (s.last < s.ep j)) ∧ Kp (fun b => b = x4) w wr) := Lib.hid ⟨HFe.out.kp (F := fun _ => False) (Kp.of_below hbj.out) (fun e => e), hK.out.trans (Kp.of_below hbj.out)⟩
          clear hbj HFe hK
          go_wp2
          go_end0
          exact ⟨rfl, HE.out⟩
end Go.Proofs.YtbfifppdcmimaaaGreat
/-
  A translation is opened that holds nothing but its seal. Nothing of one statement alone stands here.
-/
namespace Go.Proofs.YtbfifppdcmimaaaGreat
open Go.RowKit Crcm Gcm Ftlm Go.ChangeShapes Go.Maps

theorem rdW_add (a : Int) (p q : Nat) : rdW (rdW a p) q = rdW a (p + q) := by
  induction q with
  | zero => rfl
  | succ q ih =>
    rw [← rdW_succ, ih, rdW_succ]
    rfl
theorem chR_add (c : Ch) (p q : Nat) : chR (chR c p) q = chR c (p + q) := by
  unfold chR
  simp only [rdW_add]
theorem RdS.trans {o : Own} {c : Ch} {p q : Nat} {w w1 w2 : World} (h : RdS o c p w w1) (k : RdS o (chR c p) q w1 w2) : RdS o c (p + q) w w2 :=
  ⟨h.1.trans k.1, fun fv hb => by
    have := k.2 fv (h.2 fv hb)
    rw [chR_add] at this
    exact this⟩
/-- one page alone is in use, in block k0 -/
def lv0 (k0 j : Nat) : Int := if j = k0 then 1 else 0
/-- what an opening comes to, where nothing but a seal stands -/
def OpP (w : World) (X : Nat → Prop) (o : Own) (c : Ch) (s : Sn) (q : Nat) (res bad : Int) (k0 i0 : Nat) (tx : List Int) (e : Ending) (w' : World) : Prop :=
  (∃ a m n1 ta tc X', e = .returned (.tuple #[.pointer (some ⟨a.F, 0, none⟩), .int .i64 0]) ∧
    FtAt w' X' o (chR c (q + 1)) m a { res := res, bad := bad, cap := ((c.nb : Int) - bad - res - 1) * c.np - 2, ap := apB (chR c (q + 1)) (rows c.bad s.fr (lv0 k0) c.nb), st := ahF c.bad (lv0 k0) c.nb, ta := ta, tc := tc, tx := tx, se := fun z => if z = 0 then some ((k0 : Int), (i0 : Int)) else none, wr := fun _ => none, d := fun _ => false, n1 := n1, n2 := 0, n3 := 0, seq := mxs s.L 0, ep := mxe s.L 0, lt := fun j => decide (s.last < s.ep j), bg := false, bk := 0 } ∧
    m.l = rows c.bad s.fr (lv0 k0) c.nb ∧ m.r = res ∧ m.b = bad ∧ (∀ b, X b → X' b) ∧ (∀ b, X' b → X b ∨ w.heap.size ≤ b)) ∧ RdS o c (q + 1) w w'

set_option maxRecDepth 100000 in
set_option maxHeartbeats 8000000 in
theorem fopen_ok {w : World} {X : Nat → Prop} {o : Own} {c : Ch} (h : ChAt w X o c) (hup : c.up = true) (hwr : ∀ k, k < c.nb → I64 (c.wear k)) {s : Sn} (hs : lkA c.sz c.np c.bad (rdL c) c.nb = s) {q : Nat} (hq : qn c.np c.bad c.nb = q) (hL : s.L.length ≤ 5000) (hok : ∀ f ∈ s.L, f.ok) (hkb : ∀ f ∈ s.L, f.k < c.nb)
    (hl0 : s.last ≠ 0) (hms : mxs s.L 0 ≤ 2305843009213693952) (hme : mxe s.L 0 ≤ 2305843009213693952) {k0 i0 : Nat} (hk0 : k0 < c.nb) (hse : slF (inF (s.L.filter (slK s.last (nwF s.last s.L)))) (s.L.filter (slK s.last (nwF s.last s.L))) = fun z => if z = 0 then some ((k0 : Int), (i0 : Int)) else none)
    (hrp : rpE c k0 i0 = 0) (hv : Tagm.Vl c.sz (rdL c k0 i0)) {p0 p1 p2 p3 : Int} {r : List Int} (hp : (rdL c k0 i0).take c.sz = p0 :: p1 :: p2 :: p3 :: 0 :: 0 :: 0 :: 0 :: r)
    {res bad : Int} (hres : p0 + 256 * p1 = res) (hbad : p2 + 256 * p3 = bad) (h0 : res ≠ 0) (hrb : 0 ≤ res ∧ 0 ≤ bad) (hb : bad ≤ nbd c.bad c.nb) (hd : 2 ≤ (c.nb : Int) - bad - res - 1) (hcap : 0 < ((c.nb : Int) - bad - res - 1) * c.np - 2) (hfr : s.fr k0 = false) :
    Calls Tryz.prog 6 #[.pointer (some ⟨o.bc, 0, none⟩)] w (OpP w X o c s q res bad k0 i0 r) := by
  have hnb := h.good.2.1
  have hbc : o.bc < w.heap.size := h.old _ (h.inX _ (.inl rfl))
  have HU := Lib.hid (up_any h)
  have hop : o.p = .pointer (some ⟨o.bc, 0, none⟩) := rfl
  rw [hop, hup] at HU
  have HLk : Calls Tryz.prog 30 #[.pointer (some ⟨o.bc, 0, none⟩)] w fun e w' => (∃ S gF gE, e = .returned (.tuple #[.pointer (some ⟨S, 0, none⟩), .int .i64 0]) ∧ (w.heap.size ≤ S ∧ w.heap.size ≤ gF ∧ w.heap.size ≤ gE) ∧ ScAt w' w.heap.size S gF gE c.nb s) ∧ RdS o c q w w' := by
    have := look_any h hup
    unfold LkP at this
    rw [hs, hq] at this
    exact this
  have HLk := Lib.hid HLk
  have HFs : Hid (∀ W, ChAt W X o (chR c q) → Calls Tryz.prog 34 #[.pointer (some ⟨o.bc, 0, none⟩), pv ((k0 : Int), (i0 : Int))] W (FsP W o (chR c q) res bad ((rdL c k0 i0).take c.sz))) := Lib.hid (fun W hW => fromSeal_ok hW (k := k0) (i := i0) hrp hv hp hres hbad h0 hb hd)
  have hp8 : ((rdL c k0 i0).take c.sz).drop 8 = r := by rw [hp]; rfl
  have HP8 := Lib.hid hp8
  have HLs := Lib.hid (And.intro hL (And.intro hok hkb))
  have HSe := Lib.hid hse
  have HH := Lib.hid h
  have HWr := Lib.hid hwr
  have HUp := Lib.hid hup
  have HD := Lib.hid (And.intro hcap (And.intro hd (And.intro hrb hfr)))
  have e0 : (s.last == 0) = false := beq_eq_false_iff_ne.2 hl0
  have e1 : decide (2305843009213693952 < mxs s.L 0) = false := decide_eq_false (by omega)
  have e2 : decide (2305843009213693952 < mxe s.L 0) = false := decide_eq_false (by omega)
  have hrl : r.length = c.sz - 8 := by
    have e := Tagm.pg_length (Tagm.tk c.sz (rdL c k0 i0)) (Tagm.tp c.sz (rdL c k0 i0)) (Tagm.ts c.sz (rdL c k0 i0)) (Tagm.te c.sz (rdL c k0 i0)) ((rdL c k0 i0).take c.sz)
    rw [hv.2] at e
    have e2 : ((rdL c k0 i0).take c.sz).length = c.sz := by rw [List.length_take] at e ⊢; omega
    rw [hp] at e2
    simp only [List.length_cons] at e2
    omega
  have HRl := Lib.hid hrl
  have HK0 := Lib.hid hk0
  have HNp := Lib.hid h.good.2.2
  obtain ⟨i3, hi3, hz3, hs3, hb3⟩ := info_parts Tryz.infoInt
  have hmI := fun W => run_make (P := Tryz.prog) W 56 3 i3 _ Tryz.underlying56 hi3 hz3 .i64 .i64 c.nb c.nb (by omega) (Int.le_refl _) (by rw [hb3]; omega) (by omega)
  simp only [Int.toNat_natCast, hs3, Nat.mul_one] at hmI
  have eI : (Value.int .i64 0).cells = #[.int .i64 0] := rfl
  rw [eI] at hmI
  clear hi3 hz3 hs3 hb3 eI hrl hk0
  clear h hup hwr hs hq hL hok hkb hse hrp hv hp hres hbad h0 hb hd hrb hcap hfr hp8 hop hl0 hms hme
  go_enter Tryz.func6, Tryz.ntmps6
  go_wp2_with fail
  refine HU.out.mono ?_
  rintro e w' ⟨rfl, rfl⟩
  go_wp2_with fail
  refine HLk.out.mono ?_
  rintro e w1 ⟨⟨S, gF, gE, rfl, hge, hsc⟩, hrd⟩
  have HGe := Lib.hid hge
  have HC := Lib.hid (HH.out.rds0 hrd)
  have HSc : Hid (∀ W, Below w1.heap.size w1 W → ScAt W w.heap.size S gF gE c.nb s) := Lib.hid (fun W hW => hsc.below hW)
  have HRd : Hid (∀ W, Below w1.heap.size w1 W → RdS o c q w W) := Lib.hid (fun W hW => hrd.new hW hrd.1.size hbc)
  have HCh : Hid (∀ W, Below w1.heap.size w1 W → ChAt W X o (chR c q)) := Lib.hid (fun W hW => HH.out.rds0 (HRd.out W hW))
  have HGr : Hid (∀ W, Below w1.heap.size w1 W → _) := Lib.hid (fun W hW => sgreatest_any (HSc.out W hW) HLs.out.1)
  have HSz1 := Lib.hid hrd.1.size
  clear hsc hrd hge HLk HU
  go_wp2_with fail
  refine (HGr.out _ (Below.refl _ _)).mono ?_
  rintro e w2 ⟨rfl, hb2⟩
  have s3 : w2.cell? ⟨S, 3, none⟩ = some (.int .u64 s.last) := by
    obtain ⟨v, q1, -⟩ := (HSc.out _ hb2).blk
    exact (q1.cell 3).trans rfl
  have HB2 := Lib.hid hb2
  clear hb2 HGr
  go_wp2_with fail
  have HNw := Lib.hid (snewest_any (HSc.out _ HB2.out) HLs.out.1 HLs.out.2.1)
  clear s3
  refine HNw.out.mono ?_
  rintro e w3 ⟨⟨mb, nq, rfl, hmb, hmq⟩, hb3⟩
  have HB3 := Lib.hid (HB2.out.trans (hb3.mono HB2.out.size))
  have HMb := Lib.hid (And.intro hmb hmq)
  have HSl := Lib.hid (ssealed_any (HSc.out _ HB3.out) HLs.out.1 HLs.out.2.1 hnb HLs.out.2.2 hmq)
  rw [HSe.out] at HSl
  clear hmb hmq hb3 HNw
  go_wp2_with fail
  refine HSl.out.mono ?_
  rintro e w4 ⟨⟨m2, n2, rfl, hm2, hms⟩, hb4⟩
  have HB4 := Lib.hid (HB3.out.trans (hb4.mono HB3.out.size))
  have HMb4 := Lib.hid (HMb.out.2.below hb4)
  have HM4 := Lib.hid (And.intro hm2 hms)
  have hlk := hms.get (t := 51) (e := 47) Tryz.underlying51 (fun u => zeroPl u) (k := 0) (by omega)
  change _ = Result.ok (pv ((k0 : Int), (i0 : Int))) _ at hlk
  have HF4 := Lib.hid (HFs.out _ (HCh.out _ HB4.out))
  unfold pv at hlk HF4
  clear hm2 hms hb4 HSl HFs
  go_wp2_with fail
  refine HF4.out.mono ?_
  unfold FsP
  rintro e w5 ⟨⟨x1, x2, x3, x4, x5, F, g, cp, rfl, hF, hr, hg, hm1, hm2, hm3, h4, h5, hge, hne, hlt⟩, hrd5⟩
  have hF : Blk w5 F 58 (ftC o (.pointer none) res bad (((c.nb : Int) - bad - res - 1) * c.np - 2) false false (.slice (some ⟨g, 0, none⟩) (c.sz - 8) cp) x1 x2 x3 0 0 x4 x5 c.nb (.slice none 0 0) false 0) := hF
  have h4 : Blk w5 x4 4 (madeCells #[.bool false] c.nb) := h4
  have h5 : Blk w5 x5 87 (madeCells #[.slice none 0 0] c.nb) := h5
  have h45 : w.heap.size ≤ w4.heap.size := Nat.le_trans HSz1.out HB4.out.size
  have hbc4 : o.bc < w4.heap.size := by omega
  have hm2o : ¬ m2 = o.bc := fun e => by have := HM4.out.1; have := HB3.out.size; have := HSz1.out; omega
  have hmbo : ¬ mb = o.bc := fun e => by have := HMb.out.1; have := HB2.out.size; have := HSz1.out; omega
  have HMq : Hid (∀ W, RdS o (chR c q) 1 w4 W → MpAt W m2 (plM (fun z => if z = 0 then some ((k0 : Int), (i0 : Int)) else none)) n2 ∧ MpAt W mb (umM (nwF s.last s.L)) nq ∧ ScAt W w.heap.size S gF gE c.nb s ∧ RdS o c (q + 1) w W ∧ ChAt W X o (chR c (q + 1))) := by
    have hm := HM4.out.2
    have hb := HMb4.out
    have hsc := HSc.out _ HB4.out
    have hrd := HRd.out _ HB4.out
    have hh := HH.out
    have g0 := HGe.out
    exact Lib.hid (fun W hW => ⟨hm.kp hW.1 hm2o, hb.kp hW.1 hmbo, hsc.kp hW.1 (B0 := w.heap.size) (fun b e => by have e2 : b = o.bc := e; omega) ⟨g0.1, g0.2.1, g0.2.2, Nat.le_refl _⟩, hrd.trans hW, hh.rds0 (hrd.trans hW)⟩)
  have hmp5 := (HMq.out _ hrd5).1
  obtain ⟨o1, hr1, hrg1⟩ := hmp5.range (t := 51) (e := 47) Tryz.underlying51
  have hB6 : Below w5.heap.size w5 (w5.alloc o1) := (Below.refl _ _).alloc (Nat.le_refl _) _
  obtain ⟨R, hR⟩ : ∃ R, w5.heap.size = R := ⟨_, rfl⟩
  rw [hR] at hr1 hrg1
  have hlt45 : m2 < w4.heap.size := HM4.out.2.lt
  have HM2 : Hid (w1.heap.size ≤ m2) := Lib.hid (Nat.le_trans HB3.out.size HM4.out.1)
  have hltmb : mb < w4.heap.size := HMb4.out.lt
  have hF6 := hF.below hB6 hF.lt
  have hFR : F < R := by rw [← hR]; exact hF.lt
  have hr6 := hr.below hB6
  have hgR : F < g ∧ g < R := by rw [← hR]; exact hg
  have HGR := Lib.hid hgR
  have HMs := Lib.hid (And.intro (hm1.below hB6) (And.intro (hm2.below hB6) (And.intro (hm3.below hB6) (And.intro (h4.below hB6 h4.lt) (h5.below hB6 h5.lt)))))
  have HQ6 := Lib.hid (hrd5.new hB6 hrd5.1.size hbc4)
  have HR6 := Lib.hid hr6
  have HF6 := Lib.hid (And.intro hF6 hFR)
  have HRg := Lib.hid hrg1
  have HIq := Lib.hid (And.intro hge (And.intro hne (And.intro hlt h45)))
  have HLt := Lib.hid (And.intro hlt45 hltmb)
  have HbR := Lib.hid (And.intro hbc4 (show w4.heap.size ≤ R by rw [← hR]; exact hrd5.1.size))
  generalize w5.alloc o1 = W6 at hr1 HMs HQ6 HR6 HF6 HRg
  clear hgR hF h4 h5 hr hg hm1 hm2 hm3 hge hne hlt hrd5 hm2o hmbo hmp5 hB6 hF6 hr6 hrg1 HF4 hlk HSc HCh HRd HC HB2 HB3 HMb HMb4 HM4
  go_wp2_with fail
  go_loopw [11] (fun _ wr => ∃ (left : Int → Bool) (cnt : Nat), RgAt wr m2 R (plM (fun z => if z = 0 then some ((k0 : Int), (i0 : Int)) else none)) n2 left cnt ∧ Kp (fun b => b = R) W6 wr) (fun _ wr => rgL wr m2 R)
  case atStart => exact ⟨_, _, HRg.out, Kp.refl _ _⟩
  case round =>
    obtain ⟨left, cnt, hrg, hk⟩ := hrel
    rcases hrg.next with ⟨-, hl0, hnx⟩ | ⟨z, u, w1', cnt', hlz, hmz, hz, hnx, hrg1, hlt, hk1, hs1, hen⟩
    · have HK7 := Lib.hid hk
      clear hrg hk
      have hq := HIq.out
      obtain ⟨⟨q1, q2, q3, q4, q5⟩, ⟨n12, n13, n23⟩, ⟨y1, y2, y3, y4, y5⟩, h45'⟩ := hq
      have z8 : F ≠ R := by have := HF6.out.2; omega
      have HF7 := Lib.hid (HF6.out.1.kp HK7.out z8)
      have y8 := HF7.out.frozen 8
      have y11 := HF7.out.frozen 11
      have y12 := HF7.out.frozen 12
      have z1 : wr.cell? ⟨F, 8, none⟩ = some (.map (some x1)) := (HF7.out.cell 8).trans rfl
      have z2 : wr.cell? ⟨F, 11, none⟩ = some (.int .u64 0) := (HF7.out.cell 11).trans rfl
      have z3 : wr.cell? ⟨F, 12, none⟩ = some (.int .u64 0) := (HF7.out.cell 12).trans rfl
      go_wp2_with fail
      have hF8 := ((HF7.out.put 8 (.map (some m2))).put 11 (.int .u64 (mxs s.L 0))).put 12 (.int .u64 (mxe s.L 0))
      have hF8 : Blk _ F 58 (ftC o (.pointer none) res bad (((c.nb : Int) - bad - res - 1) * c.np - 2) false false (.slice (some ⟨g, 0, none⟩) (c.sz - 8) cp) m2 x2 x3 (mxs s.L 0) (mxe s.L 0) x4 x5 c.nb (.slice none 0 0) false 0) := hF8
      have hK8 : Kp (fun b => b = F ∨ b = R) W6 (((wr.setCell ⟨F, 8, none⟩ (.map (some m2))).setCell ⟨F, 11, none⟩ (.int .u64 (mxs s.L 0))).setCell ⟨F, 12, none⟩ (.int .u64 (mxe s.L 0))) := (((HK7.out.mono (G := fun b => b = F ∨ b = R) (fun b e => .inr e)).setCell (p := ⟨F, 8, none⟩) (.inl (.inl rfl)) _).setCell (p := ⟨F, 11, none⟩) (.inl (.inl rfl)) _).setCell (p := ⟨F, 12, none⟩) (.inl (.inl rfl)) _
      generalize ((wr.setCell ⟨F, 8, none⟩ (.map (some m2))).setCell ⟨F, 11, none⟩ (.int .u64 (mxs s.L 0))).setCell ⟨F, 12, none⟩ (.int .u64 (mxe s.L 0)) = W8 at hF8 hK8 ⊢
      have hq8 : RdS o (chR c q) 1 w4 W8 := HQ6.out.new (hK8.below (B := w4.heap.size) (fun b e => by have := HbR.out.2; rcases e with e | e <;> omega) HQ6.out.1.size) (Nat.le_refl _) HbR.out.1
      obtain ⟨g1, g2, g3, g4, g5⟩ := HMq.out _ hq8
      have h4 := HMs.out.2.2.2.1.kp hK8 (show ¬ (x4 = F ∨ x4 = R) by have := HF6.out.2; omega)
      have hfr4 : FrR W8 x4 c.nb (fun _ => false) := ⟨_, h4, size_madeCells _ _, fun j hj => made_get hj⟩
      have HSu := Lib.hid (suspect_none g3 HLs.out.1 HLs.out.2.1 hnb ((hF8.cell 8).trans rfl) ((hF8.cell 13).trans rfl) hF8 (by decide) hfr4 g1 g2 (fun f _ hi hn => by simp only [if_neg hn] at hi; cases hi))
      have HF8 := Lib.hid hF8
      have HQ8 := Lib.hid hq8
      have HK8 := Lib.hid hK8
      clear hF8 hq8 g1 g2 g3 g4 g5 h4 hfr4 z1 z2 z3 y8 y11 y12 HF7 HK7 hnx hl0
      refine HSu.out.mono ?_
      rintro e w9 ⟨rfl, hfr9, hk9⟩
      have hF9 := HF8.out.kp hk9 (show ¬ F = x4 by omega)
      have hq9 : RdS o (chR c q) 1 w4 w9 := HQ8.out.new (hk9.below (B := w4.heap.size) (fun b e => by omega) HQ8.out.1.size) (Nat.le_refl _) HbR.out.1
      have hK9 : Kp (fun b => b = F ∨ b = R ∨ b = x4) W6 w9 := (HK8.out.mono (fun b e => e.imp id .inl)).then_ (G := fun b => b = F ∨ b = R ∨ b = x4) (G' := fun b => b = x4) hk9 (fun b e => .inl (.inr (.inr e)))
      have HGo := Lib.hid (geo_any (c := chR c (q + 1)) (HMq.out _ hq9).2.2.2.2)
      have hop : o.p = .pointer (some ⟨o.bc, 0, none⟩) := rfl
      have en1 : (chR c (q + 1)).nb = c.nb := rfl
      have en2 : (chR c (q + 1)).np = c.np := rfl
      have en3 : (chR c (q + 1)).sz = c.sz := rfl
      rw [hop, en1, en2, en3] at HGo
      have HF9 := Lib.hid hF9
      have HQ9 := Lib.hid hq9
      have HK9 := Lib.hid hK9
      have HFr9 := Lib.hid hfr9
      have gf := gfield0
      clear hop en1 en2 en3 hF9 hq9 hK9 hfr9 hk9 HSu
      go_wp2_with fail
      refine HGo.out.mono ?_
      rintro e w10 ⟨rfl, hb10⟩
      obtain ⟨L, hLd⟩ : ∃ L, w10.heap.size = L := ⟨_, rfl⟩
      have hbA := hb10.alloc hb10.size (.cells (madeCells #[.int .i64 0] c.nb) 3)
      have hLb : Blk (w10.alloc (.cells (madeCells #[.int .i64 0] c.nb) 3)) L 3 (madeCells #[.int .i64 0] c.nb) := by rw [← hLd]; exact heap_alloc_new w10 _
      have hqA : RdS o (chR c q) 1 w4 (w10.alloc (.cells (madeCells #[.int .i64 0] c.nb) 3)) := HQ9.out.new hbA HQ9.out.1.size HbR.out.1
      obtain ⟨o2, hr2, hrg2⟩ := (HMq.out _ hqA).1.range (t := 51) (e := 47) Tryz.underlying51
      obtain ⟨R2, hR2⟩ : ∃ R2, (w10.alloc (.cells (madeCells #[.int .i64 0] c.nb) 3)).heap.size = R2 := ⟨_, rfl⟩
      rw [hR2] at hr2 hrg2
      have hb11 := hbA.alloc hbA.size o2
      have hL9 : w9.heap.size ≤ L ∧ L < R2 := ⟨by rw [← hLd]; exact hb10.size, by rw [← hR2]; exact hLb.lt⟩
      have hin : InR ((w10.alloc (.cells (madeCells #[.int .i64 0] c.nb) 3)).alloc o2) L c.nb (fun _ => 0) := ⟨_, hLb.alloc o2, size_madeCells _ _, fun j hj => made_get hj⟩
      have HB11 := Lib.hid hb11
      have HL9 := Lib.hid hL9
      have HIn := Lib.hid hin
      have HRg2 := Lib.hid hrg2
      clear hbA hLb hqA hrg2 hR2 hb11 hL9 hin hb10 HGo
      generalize (w10.alloc (.cells (madeCells #[.int .i64 0] c.nb) 3)).alloc o2 = W11 at hr2 HB11 HIn HRg2
      go_wp2_with fail
      go_loopw [14] (fun _ wr => ∃ (left : Int → Bool) (cnt : Nat), RgAt wr m2 R2 (plM (fun z => if z = 0 then some ((k0 : Int), (i0 : Int)) else none)) n2 left cnt ∧ InR wr L c.nb (fun j => if left 0 = true then 0 else lv0 k0 j) ∧ Kp (fun b => b = R2 ∨ b = L) W11 wr) (fun _ wr => rgL wr m2 R2)
      case atStart =>
        refine ⟨_, _, HRg2.out, ?_, Kp.refl _ _⟩
        exact HIn.out
      case round =>
        obtain ⟨left, cnt, hrg, hin, hk⟩ := hrel
        rcases hrg.next with ⟨-, hl0, hnx⟩ | ⟨z, u, w1', cnt', hlz, hmz, hz, hnx, hrg1, hlt, hk1, hs1, hen⟩
        · have HK12 := Lib.hid hk
          have HIn2 : Hid (InR wr L c.nb (lv0 k0)) := Lib.hid (by
            have e : (fun j => if left 0 = true then 0 else lv0 k0 j) = lv0 k0 := by
              funext j
              rw [hl0 0, if_neg (by decide)]
            rw [e] at hin
            exact hin)
          have hkb : Below w9.heap.size w9 wr := HB11.out.trans (HK12.out.below (B := w9.heap.size) (fun b e => by have := HL9.out; rcases e with e | e <;> omega) HB11.out.size)
          have hq12 : RdS o (chR c q) 1 w4 wr := HQ9.out.new hkb HQ9.out.1.size HbR.out.1
          have HHo := Lib.hid (allHold_any (c := chR c (q + 1)) (cp := c.nb) (HMq.out _ hq12).2.2.2.2 HIn2.out)
          have en1 : (chR c (q + 1)).nb = c.nb := rfl
          have en2 : (chR c (q + 1)).bad = c.bad := rfl
          rw [en1, en2] at HHo
          have HKb := Lib.hid hkb
          clear hrg hk hin en1 en2 hkb hq12
          go_wp2_with fail
          refine HHo.out.mono ?_
          rintro e w12 ⟨rfl, hb12⟩
          have hF12 := (HF9.out.below HKb.out HF9.out.lt).below hb12 (HF9.out.below HKb.out HF9.out.lt).lt
          have c6 : w12.cell? ⟨F, 6, none⟩ = some (.bool false) := (hF12.cell 6).trans rfl
          have y6 := hF12.frozen 6
          have hb912 : Below w9.heap.size w9 w12 := HKb.out.trans (hb12.mono HKb.out.size)
          have hq12 : RdS o (chR c q) 1 w4 w12 := HQ9.out.new hb912 HQ9.out.1.size HbR.out.1
          obtain ⟨-, -, hsc12, -, -⟩ := HMq.out _ hq12
          obtain ⟨⟨vS, hS12, -⟩, -, -⟩ := hsc12
          have s1 : w12.cell? ⟨S, 1, none⟩ = some (.slice (some ⟨gF, 0, none⟩) c.nb c.nb) := (hS12.cell 1).trans rfl
          have hSF : S ≠ F := hS12.ne hF12 (by decide)
          have hFS : F ≠ S := fun e => hSF e.symm
          have hF13 := hF12.put 6 (.bool (ahF c.bad (lv0 k0) c.nb))
          have hF13 : Blk (w12.setCell ⟨F, 6, none⟩ (.bool (ahF c.bad (lv0 k0) c.nb))) F 58 (ftC o (.pointer none) res bad (((c.nb : Int) - bad - res - 1) * c.np - 2) false (ahF c.bad (lv0 k0) c.nb) (.slice (some ⟨g, 0, none⟩) (c.sz - 8) cp) m2 x2 x3 (mxs s.L 0) (mxe s.L 0) x4 x5 c.nb (.slice none 0 0) false 0) := hF13
          have hK13 : Kp (fun b => b = F) w9 (w12.setCell ⟨F, 6, none⟩ (.bool (ahF c.bad (lv0 k0) c.nb))) := Kp.setCell (F := fun b => b = F) (Kp.of_below hb912) (p := ⟨F, 6, none⟩) (.inl rfl) _
          have hL13 : InR (w12.setCell ⟨F, 6, none⟩ (.bool (ahF c.bad (lv0 k0) c.nb))) L c.nb (lv0 k0) := (HIn2.out.below hb12).kp (Kp.one w12 ⟨F, 6, none⟩ _) (show ¬ L = F by have := HL9.out.1; have := HF9.out.lt; omega)
          have HF13 := Lib.hid hF13
          have HK13 := Lib.hid hK13
          have HL13 := Lib.hid hL13
          clear hF12 hb912 hq12 hS12 hF13 hK13 hL13 HHo hb12
          go_wp2_with fail
          clear s1 hSF hFS c6 y6
          generalize w12.setCell ⟨F, 6, none⟩ (.bool (ahF c.bad (lv0 k0) c.nb)) = W13 at HF13 HK13 HL13 ⊢
          have hq13 : RdS o (chR c q) 1 w4 W13 := HQ9.out.new (HK13.out.below (B := w4.heap.size) (fun b e => by omega) HQ9.out.1.size) (Nat.le_refl _) HbR.out.1
          obtain ⟨-, -, hsc13, hrd13, -⟩ := HMq.out _ hq13
          have hm2F : m2 < w4.heap.size := HLt.out.1
          have h4F : w4.heap.size ≤ W13.heap.size := hq13.1.size
          have hFl := HF13.out.lt
          have hXw : ∀ b, X b → b < w.heap.size := fun b hb => HH.out.old b hb
          have hw2 : w.heap.size ≤ m2 := by have := HM2.out; have := HSz1.out; omega
          have hX2 : ∀ b, (X b ∨ b = F ∨ b = m2 ∨ b = x2 ∨ b = x3 ∨ b = x4 ∨ b = x5) → X b ∨ w.heap.size ≤ b := fun b hb => hb.imp id (fun e => by omega)
          have hcA : ChAt W13 (fun b => X b ∨ b = F ∨ b = m2 ∨ b = x2 ∨ b = x3 ∨ b = x4 ∨ b = x5) o (chR c (q + 1)) := HH.out.rds hrd13 hX2 (fun b hb => by
            rcases hb with hb | hb
            · have := hXw b hb; omega
            · omega) (fun b hb => .inl hb)
          have hfrl : FrLv W13 (chR c (q + 1)).nb (chR c (q + 1)).np s.fr (lv0 k0) gF 0 L 0 := by
            obtain ⟨c1, b1, -, d1⟩ := hsc13.fr
            obtain ⟨c2, b2, -, d2⟩ := HL13.out
            refine ⟨fun j hj => ?_, fun j hj => ?_, fun j hj => ?_⟩
            · rw [Nat.zero_add]; exact (b1.cell j).trans (d1 j hj)
            · rw [Nat.zero_add]; exact (b2.cell j).trans (d2 j hj)
            · have hn := HNp.out.1
              have en : (chR c (q + 1)).np = c.np := rfl
              rw [en]
              unfold lv0
              by_cases e : j = k0
              · rw [if_pos e, e, HD.out.2.2.2]
                exact ⟨by omega, by omega, fun h => by cases h⟩
              · rw [if_neg e]
                exact ⟨Int.le_refl _, by omega, fun _ => rfl⟩
          have hoF : ¬ o.F (chR c (q + 1)).nb F := hcA.noF HF13.out (by decide) (by decide) (by decide)
          have HMa := Lib.hid (fmanage_any hcA HUp.out HWr.out s.fr (lv0 k0) gF 0 c.nb L 0 c.nb hfrl HF13.out HD.out.2.2.1.1 HD.out.2.2.1.2 (.inr (.inl rfl)) hoF)
          have en1 : (chR c (q + 1)).nb = c.nb := rfl
          rw [en1] at HMa
          have HcA := Lib.hid hcA
          have HoF := Lib.hid hoF
          have HQ13 := Lib.hid hq13
          have Hlq := Lib.hid (And.intro hm2F (And.intro h4F (And.intro hFl hw2)))
          clear hcA hoF hq13 hfrl hX2 hXw hsc13 hrd13 hm2F h4F hFl hw2 en1
          refine HMa.out.mono ?_
          rintro e w14 ⟨rfl, ⟨M, m, hmg, ⟨hcp, hml, hmr, hmb, hmap⟩, hF14, hMl, hgl⟩, hk14⟩
          have hml : m.l = rows c.bad s.fr (lv0 k0) c.nb := hml
          obtain ⟨hm2F, h4F, hFl, hw2⟩ := Hlq.out
          have hFg := HGR.out
          have hFR := HF6.out.2
          have hbR := HbR.out.2
          have hX' : ∀ b, ((X b ∨ b = F ∨ b = m2 ∨ b = x2 ∨ b = x3 ∨ b = x4 ∨ b = x5) ∨ b = M ∨ b = m.g) → (X b ∨ b = F ∨ b = m2 ∨ b = x2 ∨ b = x3 ∨ b = x4 ∨ b = x5) ∨ W13.heap.size ≤ b := fun b hb => hb.imp id (fun e => by omega)
          have hq14 : RdS o (chR c q) 1 w4 w14 := HQ13.out.new (hk14.below (B := w4.heap.size) (fun b e => by omega) HQ13.out.1.size) (Nat.le_refl _) HbR.out.1
          have hK14 : Kp (fun b => b = F) w9 w14 := HK13.out.trans hk14
          have hK6 : Kp (fun b => b = F ∨ b = R ∨ b = x4) W6 w14 := HK9.out.trans (hK14.mono (fun b e => .inl e))
          obtain ⟨hmm, -, -, hrd14, -⟩ := HMq.out _ hq14
          have hgX : ¬ ((X g ∨ g = F ∨ g = m2 ∨ g = x2 ∨ g = x3 ∨ g = x4 ∨ g = x5) ∨ g = M ∨ g = m.g) := by
            have hR13 : R < W13.heap.size := Nat.lt_of_lt_of_le HRg.out.lt (Nat.le_trans HK9.out.size HK13.out.size)
            rintro ((e | e | e | e | e | e | e) | e | e)
            · have := HH.out.old g e; omega
            all_goals omega
          have hrow : RwX w14 (fun b => (X b ∨ b = F ∨ b = m2 ∨ b = x2 ∨ b = x3 ∨ b = x4 ∨ b = x5) ∨ b = M ∨ b = m.g) (some ⟨g, 0, none⟩) r := by
            have e := HR6.out
            rw [HP8.out] at e
            exact ((e.toX (X := fun b => b = F ∨ b = R ∨ b = x4) (by omega)).kp hK6 (fun b hb => hb)).1.toX hgX
          have n24 : x2 ≠ x4 := HMs.out.2.1.ne HMs.out.2.2.2.1
          have n34 : x3 ≠ x4 := HMs.out.2.2.1.ne HMs.out.2.2.2.1
          have hft : FtAt w14 (fun b => (X b ∨ b = F ∨ b = m2 ∨ b = x2 ∨ b = x3 ∨ b = x4 ∨ b = x5) ∨ b = M ∨ b = m.g) o (chR c (q + 1)) m ⟨F, M, m2, x2, x3, x4, x5⟩ { res := res, bad := bad, cap := ((c.nb : Int) - bad - res - 1) * c.np - 2, ap := apB (chR c (q + 1)) (rows c.bad s.fr (lv0 k0) c.nb), st := ahF c.bad (lv0 k0) c.nb, ta := some ⟨g, 0, none⟩, tc := cp, tx := r, se := fun z => if z = 0 then some ((k0 : Int), (i0 : Int)) else none, wr := fun _ => none, d := fun _ => false, n1 := n2, n2 := 0, n3 := 0, seq := mxs s.L 0, ep := mxe s.L 0, lt := fun j => decide (s.last < s.ep j), bg := false, bk := 0 } := by
            refine ⟨HcA.out.grow hk14 (fun b e => .inr (.inl e)) (fun b hb e => HoF.out (e ▸ hb)) hX' (fun b hb => ?_) (fun b hb => .inl hb), hmg, hcp, ?_, ?_, hrow, hmm, HMs.out.2.1.kp hK6 (show ¬ (x2 = F ∨ x2 = R ∨ x2 = x4) by omega), HMs.out.2.2.1.kp hK6 (show ¬ (x3 = F ∨ x3 = R ∨ x3 = x4) by omega),
              ?_, ⟨_, HMs.out.2.2.2.2.kp hK6 (fun e => ?_)⟩, ?_, ?_, n23, ?_⟩
            · rcases hb with hb | rfl | rfl
              · exact Nat.lt_of_lt_of_le (HcA.out.old b hb) hk14.size
              · exact hmg.blk.lt
              · exact hmg.own.lt
            · rw [hml, rows_length]; rfl
            · unfold ftV
              rw [HRl.out]
              exact hF14
            · obtain ⟨c4, b4, -, d4⟩ := HFr9.out
              exact ⟨c4, b4.kp hK14 (show ¬ x4 = F by omega), d4⟩
            · have h45n : x4 ≠ x5 := HMs.out.2.2.2.1.ne HMs.out.2.2.2.2 (by decide)
              omega
            · show m2 ≠ x2; omega
            · show m2 ≠ x3; omega
            · rintro b (e | e | e | e | e | e | e | e)
              · exact .inl (.inr (.inl e))
              · exact .inr (.inl e)
              · exact .inr (.inr e)
              · exact .inl (.inr (.inr (.inl e)))
              · exact .inl (.inr (.inr (.inr (.inl e))))
              · exact .inl (.inr (.inr (.inr (.inr (.inl e)))))
              · exact .inl (.inr (.inr (.inr (.inr (.inr (.inl e))))))
              · exact .inl (.inr (.inr (.inr (.inr (.inr (.inr e))))))
          have HE : Hid (OpP w X o c s q res bad k0 i0 r (.returned (.tuple #[.pointer (some ⟨F, 0, none⟩), .int .i64 0])) w14) := Lib.hid (by
            refine ⟨⟨⟨F, M, m2, x2, x3, x4, x5⟩, m, n2, some ⟨g, 0, none⟩, cp, _, rfl, hft, hml, hmr, hmb, fun b hb => .inl (.inl hb), fun b hb => ?_⟩, hrd14⟩
            rcases hX' b hb with (e | e) | e
            · exact .inl e
            · right; omega
            · right; omega)
          clear hft hrow hgX hK6 hK14 hq14 hX' hmm hrd14 hmg hcp hml hmr hmb hmap hF14 hMl hgl hk14 HMa
          go_wp2
          go_ret2
          exact HE.out
        · obtain ⟨rfl, rfl⟩ : z = 0 ∧ u = pv ((k0 : Int), (i0 : Int)) := by
            unfold plM at hmz
            by_cases e : z = 0
            · subst e
              simp only [if_pos] at hmz
              injection hmz with e
              exact ⟨rfl, e.symm⟩
            · simp only [if_neg e] at hmz
              cases hmz
          have hin0 : InR wr L c.nb (fun _ => 0) := by
            have e : (fun j => if left 0 = true then 0 else lv0 k0 j) = fun _ => 0 := by
              funext j
              rw [hlz, if_pos rfl]
            rw [e] at hin
            exact hin
          obtain ⟨Q, hQ⟩ : ∃ Q, w1'.heap.size = Q := ⟨_, rfl⟩
          have hQL : L < Q := by
            obtain ⟨cs, q7, -⟩ := hin0
            have := q7.lt
            have := hk1.size
            omega
          have hBa : Below w1'.heap.size w1' (w1'.alloc (.cells #[.int .i64 (k0 : Int), .int .i64 (i0 : Int)] 47)) := (Below.refl _ _).alloc (Nat.le_refl _) _
          have hbQ : Blk (w1'.alloc (.cells #[.int .i64 (k0 : Int), .int .i64 (i0 : Int)] 47)) Q 47 #[.int .i64 (k0 : Int), .int .i64 (i0 : Int)] := by rw [← hQ]; exact heap_alloc_new w1' _
          have b0 := hbQ.cell 0
          have hin1 : InR (w1'.alloc (.cells #[.int .i64 (k0 : Int), .int .i64 (i0 : Int)] 47)) L c.nb (fun _ => 0) := (hin0.kp hk1 (show ¬ L = R2 by have := HL9.out.2; omega)).below hBa
          obtain ⟨cs, hcb, hcz, hcc⟩ := hin1
          have v0 : (w1'.alloc (.cells #[.int .i64 (k0 : Int), .int .i64 (i0 : Int)] 47)).cell? ⟨L, k0, none⟩ = some (.int .i64 0) := (hcb.cell k0).trans (hcc k0 HK0.out)
          have v1 := hcb.frozen k0
          have hinR : InR (w1'.alloc (.cells #[.int .i64 (k0 : Int), .int .i64 (i0 : Int)] 47)) L c.nb (fun _ => 0) := ⟨cs, hcb, hcz, hcc⟩
          have hin2 := hinR.put k0 HK0.out 1
          have e : upI (fun _ => 0) k0 1 = fun j => if (left 0 && (0 : Int) != 0) = true then 0 else lv0 k0 j := by
            funext j
            unfold upI lv0
            rw [if_neg (show ¬ (left 0 && (0 : Int) != 0) = true by simp)]
          rw [e] at hin2
          have hKL : Kp (fun b => b = L) (w1'.alloc (.cells #[.int .i64 (k0 : Int), .int .i64 (i0 : Int)] 47)) ((w1'.alloc (.cells #[.int .i64 (k0 : Int), .int .i64 (i0 : Int)] 47)).setCell ⟨L, k0, none⟩ (.int .i64 1)) := Kp.one _ ⟨L, k0, none⟩ _
          have hrg2 := (hrg1.below hBa).kp hKL (show ¬ m2 = L by have := HLt.out.1; have := HL9.out.1; have := HQ9.out.1.size; omega) (show ¬ R2 = L by have := HL9.out.2; omega)
          have hk2 : Kp (fun b => b = R2 ∨ b = L) W11 ((w1'.alloc (.cells #[.int .i64 (k0 : Int), .int .i64 (i0 : Int)] 47)).setCell ⟨L, k0, none⟩ (.int .i64 1)) := ((hk.trans (hk1.mono (fun b e => .inl e))).trans (Kp.of_below hBa)).trans (hKL.mono (fun b e => .inr e))
          have HRel := Lib.hid (And.intro hrg2 (And.intro hin2 hk2))
          have HM := Lib.hid hrg.left_eq
          have HLt2 := Lib.hid hlt
          have k0l : (k0 : Int) < (c.nb : Int) := by have := HK0.out; omega
          have k0p : (0 : Int) ≤ (k0 : Int) := by omega
          unfold pv at hnx hen
          clear hrg hk hrg1 hk1 hlt hin hin0 hBa hbQ hcb hcz hcc hin2 hinR e hKL hrg2 hk2
          go_wp2_with fail
          go_roundw
          case rel => exact ⟨_, _, HRel.out⟩
          case measure => rw [HRel.out.1.left_eq, HM.out]; exact HLt2.out
    · obtain ⟨rfl, rfl⟩ : z = 0 ∧ u = pv ((k0 : Int), (i0 : Int)) := by
        unfold plM at hmz
        by_cases e : z = 0
        · subst e
          simp only [if_pos] at hmz
          injection hmz with e
          exact ⟨rfl, e.symm⟩
        · simp only [if_neg e] at hmz
          cases hmz
      have HRel := Lib.hid (And.intro hrg1 (hk.trans hk1))
      have HM := Lib.hid hrg.left_eq
      have HLt := Lib.hid hlt
      have z8 : F ≠ R := by have := HF6.out.2; omega
      have f4 : w1'.cell? ⟨F, 4, none⟩ = some (.int .i64 (((c.nb : Int) - bad - res - 1) * c.np - 2)) := ((HF6.out.1.kp HRel.out.2 z8).cell 4).trans rfl
      have dc : decide (((c.nb : Int) - bad - res - 1) * c.np - 2 ≤ 0) = false := decide_eq_false (by have := HD.out.1; omega)
      unfold pv at hnx hen
      clear hrg hk hrg1 hk1 hlt z8
      go_wp2_with fail
      go_roundw
      case rel => exact ⟨_, _, HRel.out⟩
      case measure => rw [HRel.out.1.left_eq, HM.out]; exact HLt.out
end Go.Proofs.YtbfifppdcmimaaaGreat
