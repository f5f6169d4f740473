/-
  What the program's call Read answers: what bytes are, and a page's tag and payload.
-/
import Derived.Test.YtbfifppdcmimaaaGreatTagBeside
import Derived.Test.YtbfifppdcmimaaaGreatKA
import Derived.Laws.Rows
namespace Go.Proofs.YtbfifppdcmimaaaGreat
open Go.RowKit Crcm Tagm Go.ChangeShapes

/-- the blocks of a call of Read: the answer's tag, what is left, the tag -/
structure St (W w : World) (A : Option Addr) (n cap : Nat) (k p s e : Int) : Prop where
  b0 : Blk W w.heap.size 61 #[.int .i64 0, .int .u32 0, .int .u64 0, .int .u64 0]
  b1 : Blk W (w.heap.size + 1) 23 #[.slice A n cap]
  b2 : Blk W (w.heap.size + 2) 61 #[.int .i64 k, .int .u32 p, .int .u64 s, .int .u64 e]
  bel : Below w.heap.size w W

theorem take_any (g n len cap : Nat) (A : Option Addr) (w : World) (hc : w.cell? ⟨g, 0, none⟩ = some (.slice A len cap)) (hf : w.frozen? ⟨g, 0, none⟩ = false) (hn : n ≤ len) (hl : len ≤ cap) :
    Calls Tryz.prog 52 #[.int .i64 n, .pointer (some ⟨g, 0, none⟩)] w fun r w' => r = .returned (.slice A n cap) ∧ w' = w.setCell ⟨g, 0, none⟩ (.slice (mv A cap n) (len - n) (cap - n)) := by
  have h1 : n ≤ cap := by omega
  go_enter Tryz.func52, Tryz.ntmps52
  go_wp2
  all_goals
    have hc' := by assumption
    go_ret
    exact ⟨rfl, by unfold mv; simp [*]⟩

theorem take_st {W w : World} {A : Option Addr} {len cap m : Nat} {k p s e : Int} {l : List Int} (h : St W w A len cap k p s e) (hr : Rw w A l) (hl : l.length = len) (hcap : len ≤ cap) (hm : m ≤ len) :
    Calls Tryz.prog 52 #[.int .i64 m, .pointer (some ⟨w.heap.size + 1, 0, none⟩)] W fun r W' => ∃ A', r = .returned (.slice A m cap) ∧ St W' w A' (len - m) (cap - m) k p s e ∧ Rw w A' (l.drop m) := by
  refine (take_any (w.heap.size + 1) m len cap A W (h.b1.cell 0) (h.b1.frozen 0) hm hcap).mono ?_
  rintro r W' ⟨rfl, rfl⟩
  exact ⟨_, rfl, ⟨h.b0.far (by simp) _, h.b1.put 0 _, h.b2.far (by simp) _, h.bel.setCell (p := ⟨w.heap.size + 1, 0, none⟩) (by simp) _⟩, hr.mv m cap (by omega)⟩

theorem number_len {a : Option Addr} {cap m : Nat} {l : List Int} {w : World} {v : Int} (hr : Rw w a l) (h8 : l.length ≤ 8) (hl : l.length = m) (hv : nu l = v) :
    Calls Tryz.prog 53 #[.slice a m cap] w fun e w' => e = .returned (.int .u64 v) ∧ w = w' := by
  subst hl
  subst hv
  exact number_any a cap l w hr h8
theorem erased_len {a : Option Addr} {cap m : Nat} {l : List Int} {w : World} {v : Bool} (hr : Rw w a l) (hl : l.length = m) (hv : decide (Er l) = v) :
    Calls Tryz.prog 51 #[.slice a m cap] w fun e w' => e = .returned (.bool v) ∧ w = w' := by
  subst hl
  subst hv
  exact erased_any a cap l w hr

/-- an answer that is an error's -/
def Bad (f : Int) : Value := .tuple #[tg 0 0 0 0, .slice none 0 0, .int .i64 f]

theorem read_arg (a : Option Addr) (len cap : Nat) (w : World) (h : ¬ Sz ((len : Int) - 32)) (hl : len ≤ maxLen) :
    Calls Tryz.prog 21 #[.slice a len cap] w fun r w' => r = .returned (Bad 1) ∧ Below w.heap.size w w' := by
  unfold maxLen at hl
  have HS := Lib.hid (fun w => sized_no _ w h)
  clear h
  go_enter Tryz.func21, Tryz.ntmps21
  go_wp2_with fail
  refine (HS.out _).mono ?_
  rintro r w1 ⟨rfl, rfl⟩
  go_wp2
  exact bodyPost_ret (v := Bad 1) (by simp [Bad, tg, results, Tryz.results21, go_sem]) rfl ⟨rfl, (Below.refl _ _).alloc (Nat.le_refl _) _⟩

theorem read_erased (a : Option Addr) (n cap : Nat) (l : List Int) (w : World) (hs : Sz n) (hr : Rw w a l) (hl : l.length = n + 32) (he : Er l) :
    Calls Tryz.prog 21 #[.slice a (n + 32) cap] w fun r w' => r = .returned (Bad 20) ∧ Below w.heap.size w w' := by
  have HS := Lib.hid (fun w => sized_yes n w hs)
  have hn : n ≤ 512 := by unfold Sz at hs; omega
  have hE := Lib.hid (fun w' (hr : Rw w' a l) => erased_len (cap := cap) hr hl (decide_eq_true he))
  have HR := Lib.hid hr
  clear hs hr hl he
  go_enter Tryz.func21, Tryz.ntmps21
  go_wp2_with fail
  refine (HS.out _).mono ?_
  rintro r w1 ⟨rfl, rfl⟩
  go_wp2_with fail
  refine (hE.out _ (HR.out.below ((Below.refl _ _).alloc (Nat.le_refl _) _))).mono ?_
  rintro r w1 ⟨rfl, rfl⟩
  go_wp2
  exact bodyPost_ret (v := Bad 20) (by simp [Bad, tg, results, Tryz.results21, go_sem]) rfl ⟨rfl, (Below.refl _ _).alloc (Nat.le_refl _) _⟩

theorem nu_one (l : List Int) (n : Nat) (h : n + 2 < l.length) : nu ((l.drop (n + 2)).take 1) = tk n l := by
  have e : (l.drop (n + 2)).take 1 = [l[n + 2]] := by
    rw [List.drop_eq_getElem_cons h, List.take_succ_cons, List.take_zero]
  rw [e]
  simp [nu, tk, h]

theorem st_put0 {W w : World} {A : Option Addr} {n cap : Nat} {k p s e x : Int} (h : St W w A n cap k p s e) : St (W.setCell ⟨w.heap.size + 1 + 1, 0, none⟩ (.int .i64 x)) w A n cap x p s e :=
  ⟨h.b0.far (by simp; omega) _, h.b1.far (by simp) _, by have := h.b2.put 0 (.int .i64 x); simpa using this, h.bel.setCell (p := ⟨w.heap.size + 1 + 1, 0, none⟩) (by simp; omega) _⟩
theorem st_put1 {W w : World} {A : Option Addr} {n cap : Nat} {k p s e x : Int} (h : St W w A n cap k p s e) : St (W.setCell ⟨w.heap.size + 1 + 1, 1, none⟩ (.int .u32 x)) w A n cap k x s e :=
  ⟨h.b0.far (by simp; omega) _, h.b1.far (by simp) _, by have := h.b2.put 1 (.int .u32 x); simpa using this, h.bel.setCell (p := ⟨w.heap.size + 1 + 1, 1, none⟩) (by simp; omega) _⟩
theorem st_put2 {W w : World} {A : Option Addr} {n cap : Nat} {k p s e x : Int} (h : St W w A n cap k p s e) : St (W.setCell ⟨w.heap.size + 1 + 1, 2, none⟩ (.int .u64 x)) w A n cap k p x e :=
  ⟨h.b0.far (by simp; omega) _, h.b1.far (by simp) _, by have := h.b2.put 2 (.int .u64 x); simpa using this, h.bel.setCell (p := ⟨w.heap.size + 1 + 1, 2, none⟩) (by simp; omega) _⟩
theorem st_put3 {W w : World} {A : Option Addr} {n cap : Nat} {k p s e x : Int} (h : St W w A n cap k p s e) : St (W.setCell ⟨w.heap.size + 1 + 1, 3, none⟩ (.int .u64 x)) w A n cap k p s x :=
  ⟨h.b0.far (by simp; omega) _, h.b1.far (by simp) _, by have := h.b2.put 3 (.int .u64 x); simpa using this, h.bel.setCell (p := ⟨w.heap.size + 1 + 1, 3, none⟩) (by simp; omega) _⟩
theorem drop_len (l : List Int) (n j m : Nat) (h : l.length = n + 32) (e : n + 32 - j = m) : (l.drop j).length = m := by rw [List.length_drop]; omega
theorem take_len (l : List Int) (j m : Nat) (h : j + m ≤ l.length) : ((l.drop j).take m).length = m := by rw [List.length_take, List.length_drop]; omega
theorem tk_bd (n : Nat) (l : List Int) (h : ∀ b ∈ l, U8 b) : U8 (tk n l) := by
  unfold tk
  by_cases hi : n + 2 < l.length
  · simp only [List.getD_eq_getElem?_getD, List.getElem?_eq_getElem hi, Option.getD_some]; exact h _ (List.getElem_mem hi)
  · simp [List.getElem?_eq_none (by omega : l.length ≤ n + 2)]; unfold U8; omega
theorem tp_bd (n : Nat) (l : List Int) (h : ∀ b ∈ l, U8 b) : U32 (tp n l) := by
  unfold tp
  obtain ⟨a, b⟩ := nu_bd ((l.drop (n + 4)).take 4) (fun b hb => h b (List.mem_of_mem_drop (List.mem_of_mem_take hb)))
  have : (256 : Int) ^ ((l.drop (n + 4)).take 4).length ≤ 256 ^ 4 := by
    have h1 : (256 : Nat) ^ ((l.drop (n + 4)).take 4).length ≤ 256 ^ 4 := Nat.pow_le_pow_right (by decide) (by rw [List.length_take]; omega)
    have h2 : ((256 ^ ((l.drop (n + 4)).take 4).length : Nat) : Int) ≤ ((256 ^ 4 : Nat) : Int) := by omega
    simpa using h2
  exact ⟨a, by omega⟩
theorem mem_dt {l : List Int} (h : ∀ b ∈ l, U8 b) (j m : Nat) : ∀ b ∈ (l.drop j).take m, U8 b := fun b hb => h b (List.mem_of_mem_drop (List.mem_of_mem_take hb))
theorem ts_bd (n : Nat) (l : List Int) (h : ∀ b ∈ l, U8 b) : U64 (ts n l) := nu_le8 (mem_dt h _ _) (by rw [List.length_take]; omega)
theorem te_bd (n : Nat) (l : List Int) (h : ∀ b ∈ l, U8 b) : U64 (te n l) := nu_le8 (mem_dt h _ _) (by rw [List.length_take]; omega)

theorem write_len {k p s e : Int} {a : Option Addr} {cap m : Nat} {z : List Int} {w : World} (h : Rt k p s e) (hs : Sz m) (hz : Rw w a z) (hl : z.length = m) :
    Calls Tryz.prog 54 #[tg k p s e, .slice a m cap] w fun r w' => ∃ v, r = .returned (.tuple #[v, .int .i64 0]) ∧
      w'.ownsRow (w.heap.size + 1) 5 1 v (m + 32) ((pg k p s e z).map (Value.int .u8)) ∧ Below w.heap.size w w' := by
  subst hl
  exact write_ok k p s e a cap z w h hs hz
theorem write_len_no {k p s e : Int} {a : Option Addr} {cap m : Nat} {z : List Int} {w : World} (hp : 0 ≤ p) (h : ¬ Rt k p s e) (hl : z.length = m) :
    Calls Tryz.prog 54 #[tg k p s e, .slice a m cap] w fun r w' => r = .returned (.tuple #[.slice none 0 0, .int .i64 1]) ∧ Below w.heap.size w w' := by
  subst hl
  exact write_no k p s e a cap z w hp (fun g => h g.1)

theorem own_at {w : World} {base n c : Nat} {e : TypeId} {a : Option Addr} {xs : List Value} (h : w.ownsRow base e 1 (.slice a n c) n xs) (b off : Nat) (ha : a = some ⟨b, off, none⟩) : base ≤ b := by
  rcases h.2 with ⟨h0, _⟩ | ⟨g, cap, cur, h0, hg, _⟩
  · injection h0 with h0; rw [h0] at ha; cases ha
  · injection h0 with h0
    rw [h0] at ha
    injection ha with ha
    injection ha with ha
    omega
theorem Rw.far {w w' : World} {a : Option Addr} {zs : List Int} {base : Nat} (h : Rw w a zs) (hb : ∀ b off, a = some ⟨b, off, none⟩ → base ≤ b) (hk : ∀ b o, base ≤ b → w'.cell? ⟨b, o, none⟩ = w.cell? ⟨b, o, none⟩) : Rw w' a zs := by
  obtain ⟨h1, h2, h3⟩ := h
  refine ⟨h1, h2, ?_⟩
  rcases h3 with h3 | ⟨b, off, rfl, h3⟩
  · exact .inl h3
  · exact .inr ⟨b, off, rfl, fun i hi => (hk b (off + i) (hb b off rfl)).trans (h3 i hi)⟩

/-- a tag's block, written over -/
def ov (w : World) (g : Nat) (k p s e : Int) : World := (((w.setCell ⟨g, 0, none⟩ (.int .i64 k)).setCell ⟨g, 1, none⟩ (.int .u32 p)).setCell ⟨g, 2, none⟩ (.int .u64 s)).setCell ⟨g, 3, none⟩ (.int .u64 e)
theorem ov_blk {w : World} {g : Nat} {a b c d k p s e : Int} (h : Blk w g 61 #[.int .i64 a, .int .u32 b, .int .u64 c, .int .u64 d]) : Blk (ov w g k p s e) g 61 #[.int .i64 k, .int .u32 p, .int .u64 s, .int .u64 e] := by
  have := (((h.put 0 (.int .i64 k)).put 1 (.int .u32 p)).put 2 (.int .u64 s)).put 3 (.int .u64 e)
  simpa [ov] using this
theorem ov_below {w0 w : World} {B g : Nat} {k p s e : Int} (h : Below B w0 w) (hg : B ≤ g) : Below B w0 (ov w g k p s e) := by
  unfold ov
  exact (((h.setCell (p := ⟨g, 0, none⟩) hg _).setCell (p := ⟨g, 1, none⟩) hg _).setCell (p := ⟨g, 2, none⟩) hg _).setCell (p := ⟨g, 3, none⟩) hg _

theorem ov_far {w : World} {g : Nat} {k p s e : Int} (b o : Nat) (h : g ≠ b) : (ov w g k p s e).cell? ⟨b, o, none⟩ = w.cell? ⟨b, o, none⟩ := by
  unfold ov
  rw [World.cell?_setCell_other _ _ _ _ (by intro x; injection x; omega), World.cell?_setCell_other _ _ _ _ (by intro x; injection x; omega), World.cell?_setCell_other _ _ _ _ (by intro x; injection x; omega), World.cell?_setCell_other _ _ _ _ (by intro x; injection x; omega)]

/-- what Read answers to bytes that are as many as a page's and are not erased -/
def RdP (w : World) (n : Nat) (l : List Int) (r : Ending) (w' : World) : Prop :=
  Below w.heap.size w w' ∧ ((¬ Vl n l ∧ r = .returned (Bad 21)) ∨
    (Vl n l ∧ ∃ A c, r = .returned (.tuple #[tg (tk n l) (tp n l) (ts n l) (te n l), .slice A n c, .int .i64 0]) ∧ Rw w' A (l.take n)))

set_option maxRecDepth 100000 in
set_option maxHeartbeats 2000000 in
theorem read_page (a : Option Addr) (n cap : Nat) (l : List Int) (w : World) (hs : Sz n) (hr : Rw w a l) (hl : l.length = n + 32) (hcap : n + 32 ≤ cap) (he : ¬ Er l) :
    Calls Tryz.prog 21 #[.slice a (n + 32) cap] w (RdP w n l) := by
  have HS := Lib.hid (fun w => sized_yes n w hs)
  have HSZ := Lib.hid hs
  have hn : n ≤ 512 := by unfold Sz at hs; omega
  have hn1 : 1 ≤ n := by unfold Sz at hs; omega
  have hE := Lib.hid (fun w' (hr : Rw w' a l) => erased_len (cap := cap) hr hl (decide_eq_false he))
  have HR := Lib.hid hr
  have HU := Lib.hid hr.1
  have HL := Lib.hid hl
  have st0 : St ((((w.alloc (.cells #[.int .i64 0, .int .u32 0, .int .u64 0, .int .u64 0] 61)).alloc (.cells #[.slice a (n + 32) cap] 23)).alloc (.cells #[.int .i64 0, .int .u32 0, .int .u64 0, .int .u64 0] 61))) w a (n + 32) cap 0 0 0 0 := by
    refine ⟨((Blk.new w _ _).alloc _).alloc _, ?_, ?_, (((Below.refl _ _).alloc (Nat.le_refl _) _).alloc (by simp) _).alloc (by simp; omega) _⟩
    · have := (Blk.new (w.alloc (.cells #[.int .i64 0, .int .u32 0, .int .u64 0, .int .u64 0] 61)) 23 #[.slice a (n + 32) cap]).alloc (.cells #[.int .i64 0, .int .u32 0, .int .u64 0, .int .u64 0] 61)
      simpa using this
    · have := Blk.new ((w.alloc (.cells #[.int .i64 0, .int .u32 0, .int .u64 0, .int .u64 0] 61)).alloc (.cells #[.slice a (n + 32) cap] 23)) 61 #[.int .i64 0, .int .u32 0, .int .u64 0, .int .u64 0]
      simpa using this
  obtain ⟨W0, hW0⟩ : ∃ W0, (((w.alloc (.cells #[.int .i64 0, .int .u32 0, .int .u64 0, .int .u64 0] 61)).alloc (.cells #[.slice a (n + 32) cap] 23)).alloc (.cells #[.int .i64 0, .int .u32 0, .int .u64 0, .int .u64 0] 61)) = W0 := ⟨_, rfl⟩
  rw [hW0] at st0
  have HW0 := Lib.hid hW0
  have HT0 := Lib.hid st0
  have HK := Lib.hid (tk_bd n l hr.1)
  have HP := Lib.hid (tp_bd n l hr.1)
  have HQ := Lib.hid (ts_bd n l hr.1)
  have HV := Lib.hid (te_bd n l hr.1)
  clear hs hr hl he hW0 st0
  go_enter Tryz.func21, Tryz.ntmps21
  go_wp2_with fail
  refine (HS.out _).mono ?_
  rintro r w1 ⟨rfl, rfl⟩
  go_wp2_with fail
  refine (hE.out _ (HR.out.below ((Below.refl _ _).alloc (Nat.le_refl _) _))).mono ?_
  rintro r w1 ⟨rfl, rfl⟩
  clear HS hE
  go_wp2_with fail
  rw [HW0.out]
  refine (take_st HT0.out HR.out HL.out hcap (by omega)).mono ?_
  rintro r W1 ⟨A1, rfl, t1, r1⟩
  have T1 := Lib.hid t1
  have R1 := Lib.hid r1
  clear t1 r1 HT0 HW0
  go_wp2_with fail
  refine (take_st (m := 2) T1.out R1.out (drop_len l n n (n + 32 - n) HL.out rfl) (by omega) (by omega)).mono ?_
  rintro r W2 ⟨A2, rfl, t2, r2⟩
  rw [List.drop_drop] at r2
  have T2 := Lib.hid t2
  have R2 := Lib.hid r2
  clear t2 r2 T1 R1
  go_wp2_with fail
  refine (take_st (m := 1) T2.out R2.out (drop_len l n (n + 2) (n + 32 - n - 2) HL.out (by omega)) (by omega) (by omega)).mono ?_
  rintro r W3 ⟨A3, rfl, t3, r3⟩
  rw [List.drop_drop] at r3
  have T3 := Lib.hid t3
  have R3 := Lib.hid r3
  have N3 := Lib.hid (fun c => number_len (cap := c) ((R2.out.take 1).below t3.bel) (by rw [List.length_take]; omega) (take_len l (n + 2) 1 (by have := HL.out; omega)) (nu_one l n (by have := HL.out; omega)))
  clear t3 r3 T2 R2
  go_wp2_with fail
  refine (N3.out _).mono ?_
  rintro r w' ⟨rfl, rfl⟩
  have kb := HK.out
  obtain ⟨k0, k1⟩ := kb
  have f3 := T3.out.b2.frozen 0
  have c3 := T3.out.b2.cell 0
  simp at c3
  go_wp2_with fail
  have t4 := st_put0 (x := tk n l) T3.out
  obtain ⟨W4, hW4⟩ : ∃ W4, W3.setCell ⟨w.heap.size + 1 + 1, 0, none⟩ (.int .i64 (tk n l)) = W4 := ⟨_, rfl⟩
  rw [hW4] at t4 ⊢
  have T4 := Lib.hid t4
  clear t4 hW4 T3 N3 f3 c3
  refine (take_st (m := 1) T4.out R3.out (drop_len l n (n + 3) (n + 32 - n - 2 - 1) HL.out (by omega)) (by omega) (by omega)).mono ?_
  rintro r W5 ⟨A5, rfl, t5, r5⟩
  rw [List.drop_drop] at r5
  have T5 := Lib.hid t5
  have R5 := Lib.hid r5
  clear t5 r5 T4 R3
  go_wp2_with fail
  refine (take_st (m := 4) T5.out R5.out (drop_len l n (n + 4) (n + 32 - n - 2 - 1 - 1) HL.out (by omega)) (by omega) (by omega)).mono ?_
  rintro r W6 ⟨A6, rfl, t6, r6⟩
  rw [List.drop_drop] at r6
  have T6 := Lib.hid t6
  have R6 := Lib.hid r6
  have N6 := Lib.hid (fun c => number_len (cap := c) (v := tp n l) ((R5.out.take 4).below t6.bel) (by rw [List.length_take]; omega) (take_len l (n + 4) 4 (by have := HL.out; omega)) rfl)
  clear t6 r6 T5 R5
  go_wp2_with fail
  refine (N6.out _).mono ?_
  rintro r w' ⟨rfl, rfl⟩
  have hw6 : IntKind.u32.wrap (tp n l) = tp n l := by obtain ⟨a, b⟩ := HP.out; rw [IntKind.wrap_u32]; omega
  have hp6 : tp n l % 4294967296 = tp n l := by obtain ⟨a, b⟩ := HP.out; omega
  have HW6 := Lib.hid hw6
  have HP6 := Lib.hid hp6
  have f6 := T6.out.b2.frozen 1
  have c6 := T6.out.b2.cell 1
  simp at c6
  clear hw6 hp6
  go_wp2_with fail
  rw [HP6.out]
  have t7 := st_put1 (x := tp n l) T6.out
  obtain ⟨W7, hW7⟩ : ∃ W7, W6.setCell ⟨w.heap.size + 1 + 1, 1, none⟩ (.int .u32 (tp n l)) = W7 := ⟨_, rfl⟩
  rw [hW7] at t7 ⊢
  have T7 := Lib.hid t7
  clear t7 hW7 T6 N6 f6 c6
  refine (take_st (m := 8) T7.out R6.out (drop_len l n (n + 8) (n + 32 - n - 2 - 1 - 1 - 4) HL.out (by omega)) (by omega) (by omega)).mono ?_
  rintro r W8 ⟨A8, rfl, t8, r8⟩
  rw [List.drop_drop] at r8
  have T8 := Lib.hid t8
  have R8 := Lib.hid r8
  have N8 := Lib.hid (fun c => number_len (cap := c) (v := ts n l) ((R6.out.take 8).below t8.bel) (by rw [List.length_take]; omega) (take_len l (n + 8) 8 (by have := HL.out; omega)) rfl)
  clear t8 r8 T7 R6
  go_wp2_with fail
  refine (N8.out _).mono ?_
  rintro r w' ⟨rfl, rfl⟩
  have f8 := T8.out.b2.frozen 2
  have c8 := T8.out.b2.cell 2
  simp at c8
  go_wp2_with fail
  have t9 := st_put2 (x := ts n l) T8.out
  obtain ⟨W9, hW9⟩ : ∃ W9, W8.setCell ⟨w.heap.size + 1 + 1, 2, none⟩ (.int .u64 (ts n l)) = W9 := ⟨_, rfl⟩
  rw [hW9] at t9 ⊢
  have T9 := Lib.hid t9
  clear t9 hW9 T8 N8 f8 c8
  refine (take_st (m := 8) T9.out R8.out (drop_len l n (n + 16) (n + 32 - n - 2 - 1 - 1 - 4 - 8) HL.out (by omega)) (by omega) (by omega)).mono ?_
  rintro r Wa ⟨Aa, rfl, ta, ra⟩
  have Ta := Lib.hid ta
  have Na := Lib.hid (fun c => number_len (cap := c) (v := te n l) ((R8.out.take 8).below ta.bel) (by rw [List.length_take]; omega) (take_len l (n + 16) 8 (by have := HL.out; omega)) rfl)
  clear ta ra T9 R8
  go_wp2_with fail
  refine (Na.out _).mono ?_
  rintro r w' ⟨rfl, rfl⟩
  have fa := Ta.out.b2.frozen 3
  have ca := Ta.out.b2.cell 3
  have ca0 := Ta.out.b2.cell 0
  have ca1 := Ta.out.b2.cell 1
  have ca2 := Ta.out.b2.cell 2
  simp at ca ca0 ca1 ca2
  go_wp2_with fail
  have tb := st_put3 (x := te n l) Ta.out
  obtain ⟨Wb, hWb⟩ : ∃ Wb, Wa.setCell ⟨w.heap.size + 1 + 1, 3, none⟩ (.int .u64 (te n l)) = Wb := ⟨_, rfl⟩
  rw [hWb] at tb ⊢
  have Tb := Lib.hid tb
  clear tb hWb Ta Na fa ca ca0 ca1 ca2
  by_cases hR : Rt (tk n l) (tp n l) (ts n l) (te n l)
  · refine (write_len (cap := cap) hR HSZ.out ((HR.out.take n).below Tb.out.bel) (by rw [List.length_take]; have := HL.out; omega)).mono ?_
    rintro r Wc ⟨v, rfl, hown, hbc⟩
    obtain ⟨a2, cap2, rfl, hr2, hl2, hcap2⟩ := Rw.of_own hown (pg_U8 _ _ _ _ _ (fun b hb => HU.out b (List.mem_of_mem_take hb)))
    have hrc := HR.out.below (Tb.out.bel.trans (hbc.mono Tb.out.bel.size))
    have hE := Lib.hid (fun c d => equal_any a2 a c d (n + 32) (n + 32) _ l Wc hr2 hrc hl2 HL.out)
    have HR2 := Lib.hid hr2
    have HAT := Lib.hid (own_at hown)
    have HBC := Lib.hid hbc
    have q0 := Tb.out.b0.below hbc Tb.out.b0.lt
    have q2 := Tb.out.b2.below hbc Tb.out.b2.lt
    have HQ0 := Lib.hid q0
    have HQ2 := Lib.hid q2
    have HRt := Lib.hid hR
    clear hown hr2 hl2 hrc hbc q0 q2 hR
    go_wp2_with fail
    refine (hE.out _ _).mono ?_
    rintro r w' ⟨rfl, rfl⟩
    by_cases hv : pg (tk n l) (tp n l) (ts n l) (te n l) (l.take n) = l
    · rw [decide_eq_true hv]
      have HV := Lib.hid hv
      clear hv hE
      have d0 := HQ2.out.cell 0
      have d1 := HQ2.out.cell 1
      have d2 := HQ2.out.cell 2
      have d3 := HQ2.out.cell 3
      have e0 := HQ0.out.cell 0
      have e1 := HQ0.out.cell 1
      have e2 := HQ0.out.cell 2
      have e3 := HQ0.out.cell 3
      have g0 := HQ0.out.frozen 0
      have g1 := HQ0.out.frozen 1
      have g2 := HQ0.out.frozen 2
      have g3 := HQ0.out.frozen 3
      simp at d0 d1 d2 d3 e0 e1 e2 e3
      go_wp2_with fail
      go_region
      go_wp2
      have X := ov_blk (k := tk n l) (p := tp n l) (s := ts n l) (e := te n l) HQ0.out
      have XB := ov_below (k := tk n l) (p := tp n l) (s := ts n l) (e := te n l) (Tb.out.bel.trans (HBC.out.mono Tb.out.bel.size)) (Nat.le_refl w.heap.size)
      have hlt := Tb.out.b0.lt
      have XR : Rw (ov Wc w.heap.size (tk n l) (tp n l) (ts n l) (te n l)) a2 (l.take n) := by
        have h := HR2.out
        rw [HV.out] at h
        exact (h.take n).far HAT.out fun b o hb => ov_far b o (by omega)
      have x0 := X.cell 0
      have x1 := X.cell 1
      have x2 := X.cell 2
      have x3 := X.cell 3
      simp at x0 x1 x2 x3
      unfold ov at x0 x1 x2 x3
      exact bodyPost_ret (v := .tuple #[tg (tk n l) (tp n l) (ts n l) (te n l), .slice a2 n n, .int .i64 0]) (by simp [tg, results, Tryz.results21, go_sem, x0, x1, x2, x3]) rfl ⟨XB.drew, .inr ⟨⟨HRt.out, HV.out⟩, a2, n, rfl, XR⟩⟩
    · rw [decide_eq_false hv]
      have HV := Lib.hid hv
      clear hv hE
      have d0 := HQ0.out.cell 0
      have d1 := HQ0.out.cell 1
      have d2 := HQ0.out.cell 2
      have d3 := HQ0.out.cell 3
      have g0 := HQ0.out.frozen 0
      have g1 := HQ0.out.frozen 1
      have g2 := HQ0.out.frozen 2
      have g3 := HQ0.out.frozen 3
      simp at d0 d1 d2 d3
      go_wp2
      have X := ov_blk (k := 0) (p := 0) (s := 0) (e := 0) HQ0.out
      have XB := ov_below (k := 0) (p := 0) (s := 0) (e := 0) (Tb.out.bel.trans (HBC.out.mono Tb.out.bel.size)) (Nat.le_refl w.heap.size)
      have x0 := X.cell 0
      have x1 := X.cell 1
      have x2 := X.cell 2
      have x3 := X.cell 3
      simp at x0 x1 x2 x3
      unfold ov at x0 x1 x2 x3
      exact bodyPost_ret (v := Bad 21) (by simp [Bad, tg, results, Tryz.results21, go_sem, x0, x1, x2, x3]) rfl ⟨XB, .inl ⟨fun h => HV.out h.2, rfl⟩⟩
  · refine (write_len_no (cap := cap) HP.out.1 hR (z := l.take n) (by rw [List.length_take]; have := HL.out; omega)).mono ?_
    rintro r Wc ⟨rfl, hbc⟩
    have q0 := Tb.out.b0.below hbc Tb.out.b0.lt
    have d0 := q0.cell 0
    have d1 := q0.cell 1
    have d2 := q0.cell 2
    have d3 := q0.cell 3
    have g0 := q0.frozen 0
    have g1 := q0.frozen 1
    have g2 := q0.frozen 2
    have g3 := q0.frozen 3
    simp at d0 d1 d2 d3
    have HBC := Lib.hid hbc
    have HRt := Lib.hid hR
    have HQ0 := Lib.hid q0
    clear hbc hR q0
    go_wp2
    have X := ov_blk (k := 0) (p := 0) (s := 0) (e := 0) HQ0.out
    have XB := ov_below (k := 0) (p := 0) (s := 0) (e := 0) (Tb.out.bel.trans (HBC.out.mono Tb.out.bel.size)) (Nat.le_refl w.heap.size)
    have x0 := X.cell 0
    have x1 := X.cell 1
    have x2 := X.cell 2
    have x3 := X.cell 3
    simp at x0 x1 x2 x3
    unfold ov at x0 x1 x2 x3
    exact bodyPost_ret (v := Bad 21) (by simp [Bad, tg, results, Tryz.results21, go_sem, x0, x1, x2, x3]) rfl ⟨XB, .inl ⟨fun h => HRt.out h.1, rfl⟩⟩

end Go.Proofs.YtbfifppdcmimaaaGreat
