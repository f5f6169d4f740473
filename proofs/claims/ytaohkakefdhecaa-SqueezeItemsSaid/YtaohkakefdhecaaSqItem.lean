/-
  Items of squeezed bytes: the program's first, fits, put. Nothing of one statement alone stands here.
-/
import Derived.Test.YtaohkakefdhecaaSqMath
import Derived.Test.YtaohkakefdhecaaLay
import Derived.Test.YtaohkakefdhecaaBytes
import Derived.Test.YtaohkakefdhecaaBlk
import Derived.Laws.BitsAllLaws
import Derived.Laws.AppendOwn
import Derived.Maps.AppendAt
import Derived.WalkMore
import Derived.RangeFuncOwn
namespace Go.Proofs.Ytaohkakefdhecaa
open Go.RowKit Crcm Sqm Go.ChangeShapes

/-- an item, as a value -/
def itv (n d : Int) (v : Value) : Value := .agg #[.int .i64 n, .int .i64 d, v]

theorem rw_one (w : World) (x : Int) (hx : U8 x) : Rw (w.alloc (.cells #[.int .u8 x] 5)) (some ⟨w.heap.size, 0, none⟩) [x] := by
  refine ⟨fun n hn => by rw [List.mem_singleton.1 hn]; exact hx, by simp [maxLen], .inr ⟨_, 0, rfl, fun j hj => ?_⟩⟩
  simp at hj
  subst hj
  exact (Blk.new w 5 #[.int .u8 x]).cell 0

/-- append of bytes onto a row of the call's own: up to four million, and where the row then lies -/
theorem app8 {w : World} {ops : Array Oper} {rest : List Oper} {o : Oper} {a : Act} {Q : Exit → Act → World → Prop} (hgd : o.guard = none) (s x : Operand)
    (ho : o.op = .call { callee := .builtin .append, args := #[s, x], argTypes := #[22, 22] })
    (base : Nat) (v : Value) (n : Nat) (xs : List Int) (hs : a.eval s = v) (hown : w.ownsRow base 5 1 v n (xs.map (Value.int .u8)))
    (A : Option Addr) (m c : Nat) (l : List Int) (hx : a.eval x = .slice A m c) (hl : l.length = m) (hsrc : Src w A l) (h63 : n + m ≤ 4000000) (hbase : base ≤ w.heap.size)
    (h : ∀ v' w', w'.ownsRow base 5 1 v' (n + m) ((xs ++ l).map (Value.int .u8)) → Below base w w' → w.grownBy w' v.ownBlock → (v'.ownBlock = v.ownBlock ∨ v'.ownBlock = some w.heap.size) → wpList Try.prog ops Q rest (a.put o.dst v') w') : wpList Try.prog ops Q (o :: rest) a w := by
  obtain ⟨i0, hi, hz0, hz1, hz2⟩ := info_parts Try.info8
  rcases hsrc with ⟨rfl, rfl⟩ | ⟨ad, rfl, hc⟩
  · simp at hl
    subst hl
    exact wpList_plain hgd fun _ hK => wp_append_nothing s x 22 ho base 5 i0 1 Try.underlying22 hi v n _ hs hown c hx (hK _ _ (h v w (by simpa using hown) (Below.refl _ _) ⟨rfl, rfl, rfl, Nat.le_refl _, fun _ _ _ => rfl⟩ (.inl rfl)))
  · refine wpList_append_own_at w hgd s x 22 ho base 5 i0 (.int .u8 0) 1 1 Try.underlying22 hi hz0 hz1 hz2 rfl (by decide) v n _ hs hown ad m c (l.map (Value.int .u8)) hx (by simp [hl]) ?_ ?_ (by unfold maxLen; omega) (by omega) hbase ?_
    · intro j u hu
      rw [List.getElem?_map] at hu
      by_cases hj : j < l.length
      · rw [hc j hj]
        simpa [hj] using hu
      · simp [List.getElem?_eq_none (by omega : l.length ≤ j)] at hu
    · intro u hu; obtain ⟨n, -, rfl⟩ := List.mem_map.1 hu; rfl
    · intro v' w' h1 h2 _ h4
      rw [← List.map_append] at h1
      exact h v' w' h1 ((Below.refl _ _).grown h2 hbase (fun g hg => (hown.lt g hg).1)) h2 h4
theorem own_slice {w : World} {base k : Nat} {v : Value} {xs : List Value} {e : TypeId} (h : w.ownsRow base e 1 v k xs) : ∃ a c, v = .slice a k c := by
  rcases h.2 with ⟨rfl, rfl⟩ | ⟨g, cap, cur, rfl, _⟩
  · exact ⟨none, 0, rfl⟩
  · exact ⟨_, cap, rfl⟩
/-- a block beside a row that was appended to -/
theorem Blk.grown {w w' : World} {g : Nat} {t : TypeId} {cs : Array Value} {r : Option Nat} (h : Blk w g t cs) (hg : w.grownBy w' r) (hr : r ≠ some g) : Blk w' g t cs :=
  (hg.block g h.lt (fun e => hr e.symm)).trans h
/-- what holds no cells lies as it lay when a row of the call's own is appended to -/
theorem keeps_grown {w w' : World} {base k : Nat} {v : Value} {xs : List Value} {e : TypeId} (h : w.ownsRow base e 1 v k xs) (hg : w.grownBy w' v.ownBlock) : KeepsOthers w w' :=
  ⟨hg.size, fun i o hi ho => (hg.block i (Array.getElem?_eq_some_iff.1 hi).1 (fun e => by
    rcases h.2 with ⟨h0, _⟩ | ⟨g', cap, cur, h0, _, hgg, _⟩
    · rw [h0] at e; simp [Value.ownBlock] at e
    · rw [h0] at e
      simp [Value.ownBlock] at e
      subst e
      rw [hgg] at hi; cases hi; cases ho)).trans hi⟩
theorem keeps_below {w w' : World} (h : Below w.heap.size w w') : KeepsOthers w w' := ⟨h.size, fun i _ hi _ => (h.block i (Array.getElem?_eq_some_iff.1 hi).1).trans hi⟩
theorem own_ne {w : World} {base k S : Nat} {v : Value} {xs : List Value} {e : TypeId} (h : w.ownsRow base e 1 v k xs) (hS : w.heap.size ≤ S) : v.ownBlock ≠ some S := fun e => by have := (h.lt S e).2; omega

/-- the byte at a place of bytes that lie in memory -/
theorem Rw.byte {w : World} {b o : Nat} {l : List Int} (h : Rw w (some ⟨b, o, none⟩) l) {j : Nat} (hj : j < l.length) : w.cell? ⟨b, o + j, none⟩ = some (.int .u8 (ba l j)) ∧ ba l j < 256 := by
  rcases h.2.2 with rfl | ⟨b', o', e, hc⟩
  · simp at hj
  · injection e with e; injection e with e1 e2; subst e1 e2
    have hu : U8 (l.getD j 0) := h.1 _ (by rw [List.getD_eq_getElem?_getD, List.getElem?_eq_getElem hj]; exact List.getElem_mem hj)
    unfold U8 at hu
    unfold ba
    refine ⟨?_, by omega⟩
    rw [Int.toNat_of_nonneg hu.1]
    exact hc j hj

theorem i64_or_nat (a b : Nat) (ha : a < 9223372036854775808) (hb : b < 9223372036854775808) : bits .or .i64 (a : Int) (b : Int) = ((a ||| b : Nat) : Int) := by
  have hx : a ||| b < 2 ^ 63 := Nat.or_lt_two_pow (by omega) (by omega)
  show IntKind.i64.wrap ((BitVec.ofInt 64 (a : Int) ||| BitVec.ofInt 64 (b : Int)).toNat : Int) = _
  rw [BitVec.toNat_or, ofInt_u64 a (by omega), ofInt_u64 b (by omega), IntKind.wrap_i64]
  omega
theorem or_far {x y : Nat} (hx : x < 256) (hy : y < 256) : bits .or .i64 (x : Int) ((y : Int) * 256) = ((x + 256 * y : Nat) : Int) := by
  have h := Nat.two_pow_add_eq_or_of_lt (i := 8) (b := x) hx y
  rw [show ((y : Int) * 256) = ((2 ^ 8 * y : Nat) : Int) by omega, i64_or_nat _ _ (by omega) (by omega), Nat.or_comm, ← h]
  omega

/-- a cell that was there is there when a block is made -/
theorem cell_on {w : World} {p : Addr} {v : Value} (o : Obj) (h : w.cell? p = some v) : (w.alloc o).cell? p = some v :=
  (((Below.refl w.heap.size w).alloc (Nat.le_refl _) o).cell (block_lt_of_cell h)).trans h
theorem it_c0 (w : World) (x y z : Value) (t : TypeId) : (w.alloc (.cells #[x, y, z] t)).cell? ⟨w.heap.size, 0, none⟩ = some x := (Blk.new w t #[x, y, z]).cell 0
theorem it_c1 (w : World) (x y z : Value) (t : TypeId) : (w.alloc (.cells #[x, y, z] t)).cell? ⟨w.heap.size, 1, none⟩ = some y := (Blk.new w t #[x, y, z]).cell 1
theorem it_c2 (w : World) (x y z : Value) (t : TypeId) : (w.alloc (.cells #[x, y, z] t)).cell? ⟨w.heap.size, 2, none⟩ = some z := (Blk.new w t #[x, y, z]).cell 2

set_option maxRecDepth 100000 in
set_option maxHeartbeats 1000000 in
theorem first_run (b o m c : Nat) (l : List Int) (w : World) (hr : Rw w (some ⟨b, o, none⟩) l) (hl : l.length = m) (hm : 1 ≤ m) (hmc : m ≤ c) (_hc : c ≤ 9223372036854775807) (h8 : ba l 0 < 128) (hw : wh l 0 = true) :
    Calls Try.prog 32 #[.slice (some ⟨b, o, none⟩) m c] w fun e w' => e = .returned (.tuple #[itv (cnt l 0) 0 (.slice (some ⟨b, o + 1, none⟩) (cnt l 0) (c - 1)), .int .i64 (sz l 0)]) ∧ Below w.heap.size w w' := by
  obtain ⟨c0, b0⟩ := hr.byte (j := 0) (by omega)
  rw [Nat.add_zero] at c0
  have hw := of_decide_eq_true hw
  have e1 : cnt l 0 = ba l 0 + 1 := by unfold cnt; rw [if_pos h8]
  have e2 : sz l 0 = ba l 0 + 2 := by unfold sz; rw [if_pos h8]
  rw [e2, hl] at hw
  rw [e1, e2]
  generalize ba l 0 = x at *
  obtain ⟨S, hS⟩ : ∃ S, S = w.heap.size := ⟨_, rfl⟩
  have c1 := cell_on (.cells #[.int .i64 0, .int .i64 0, .slice none 0 0] 43) c0
  have hw2 : x + 2 ≤ m := by omega
  have hw3 : ¬ ((m : Int) < (x : Int) + 2) := by omega
  clear hr hl e1 e2
  go_enter Try.func32, Try.ntmps32
  go_wp2
  exact bodyPost_ret (v := .tuple #[itv ((x : Int) + 1) 0 (.slice (some ⟨b, o + 1, none⟩) (x + 1) (c - 1)), .int .i64 ((x : Int) + 2)]) (by
    simp [results, Try.results32, go_sem, itv]; omega) rfl ⟨rfl, (Below.refl _ _).alloc (Nat.le_refl _) _⟩

set_option maxRecDepth 100000 in
set_option maxHeartbeats 1000000 in
theorem first_short (b o m c : Nat) (l : List Int) (w : World) (hr : Rw w (some ⟨b, o, none⟩) l) (hl : l.length = m) (hm : 1 ≤ m) (_hmc : m ≤ c) (_hc : c ≤ 9223372036854775807) (h8 : ba l 0 < 128) (hw : wh l 0 = false) :
    Calls Try.prog 32 #[.slice (some ⟨b, o, none⟩) m c] w fun e w' => e = .returned (.tuple #[itv 0 0 (.slice none 0 0), .int .i64 (sz l 0)]) ∧ Below w.heap.size w w' := by
  obtain ⟨c0, b0⟩ := hr.byte (j := 0) (by omega)
  rw [Nat.add_zero] at c0
  have hw := of_decide_eq_false hw
  have e2 : sz l 0 = ba l 0 + 2 := by unfold sz; rw [if_pos h8]
  rw [e2, hl] at hw
  rw [e2]
  generalize ba l 0 = x at *
  have c1 := cell_on (.cells #[.int .i64 0, .int .i64 0, .slice none 0 0] 43) c0
  have hw3 : (m : Int) < (x : Int) + 2 := by omega
  clear hr hl e2
  go_enter Try.func32, Try.ntmps32
  go_wp2
  exact bodyPost_ret (v := .tuple #[itv 0 0 (.slice none 0 0), .int .i64 ((x : Int) + 2)]) (by
    simp [results, Try.results32, go_sem, itv]; omega) rfl ⟨rfl, (Below.refl _ _).alloc (Nat.le_refl _) _⟩

set_option maxRecDepth 100000 in
set_option maxHeartbeats 1000000 in
theorem first_cut (b o m c : Nat) (l : List Int) (w : World) (hr : Rw w (some ⟨b, o, none⟩) l) (hl : l.length = m) (hm : 1 ≤ m) (_hmc : m ≤ c) (_hc : c ≤ 9223372036854775807) (h8 : ¬ ba l 0 < 128) (hw : wh l 0 = false) :
    Calls Try.prog 32 #[.slice (some ⟨b, o, none⟩) m c] w fun e w' => e = .returned (.tuple #[itv 0 0 (.slice none 0 0), .int .i64 (sz l 0)]) ∧ Below w.heap.size w w' := by
  obtain ⟨c0, b0⟩ := hr.byte (j := 0) (by omega)
  rw [Nat.add_zero] at c0
  have hw := of_decide_eq_false hw
  have e2 : sz l 0 = 3 := by unfold sz; rw [if_neg h8]
  rw [e2, hl] at hw
  rw [e2]
  generalize ba l 0 = x at *
  have c1 := cell_on (.cells #[.int .i64 0, .int .i64 0, .slice none 0 0] 43) c0
  have hw3 : (m : Int) < 3 := by omega
  have h9 : 128 ≤ (x : Int) := by omega
  clear hr hl e2 h8
  go_enter Try.func32, Try.ntmps32
  go_wp2
  exact bodyPost_ret (v := .tuple #[itv 0 0 (.slice none 0 0), .int .i64 3]) (by
    simp [results, Try.results32, go_sem, itv]) rfl ⟨rfl, (Below.refl _ _).alloc (Nat.le_refl _) _⟩

set_option maxRecDepth 100000 in
set_option maxHeartbeats 1000000 in
theorem first_copy (b o m c : Nat) (l : List Int) (w : World) (hr : Rw w (some ⟨b, o, none⟩) l) (hl : l.length = m) (_hm : 1 ≤ m) (_hmc : m ≤ c) (_hc : c ≤ 9223372036854775807) (h8 : ¬ ba l 0 < 128) (hw : wh l 0 = true) :
    Calls Try.prog 32 #[.slice (some ⟨b, o, none⟩) m c] w fun e w' => e = .returned (.tuple #[itv (cnt l 0) (far l 0) (.slice none 0 0), .int .i64 (sz l 0)]) ∧ Below w.heap.size w w' := by
  have hw := of_decide_eq_true hw
  have e2 : sz l 0 = 3 := by unfold sz; rw [if_neg h8]
  rw [e2, hl] at hw
  obtain ⟨c0, b0⟩ := hr.byte (j := 0) (by omega)
  obtain ⟨d0, b1⟩ := hr.byte (j := 1) (by omega)
  obtain ⟨f0, b2⟩ := hr.byte (j := 2) (by omega)
  rw [Nat.add_zero] at c0
  have e1 : cnt l 0 = ba l 0 - 125 := by unfold cnt; rw [if_neg h8]
  have e3 : far l 0 = ba l 1 + 256 * ba l 2 := by unfold far; rw [if_neg h8]
  rw [e1, e2, e3]
  have hor : Hid (bits .or .i64 (ba l 1 : Int) ((ba l 2 : Int) * 256) = ((ba l 1 + 256 * ba l 2 : Nat) : Int)) := Lib.hid (or_far b1 b2)
  generalize ba l 0 = x at *
  generalize ba l 1 = y at *
  generalize ba l 2 = z at *
  generalize y + 256 * z = D at *
  have c1 := cell_on (.cells #[.int .i64 0, .int .i64 0, .slice none 0 0] 43) c0
  have d1 := cell_on (.cells #[.int .i64 0, .int .i64 0, .slice none 0 0] 43) d0
  have f1 := cell_on (.cells #[.int .i64 0, .int .i64 0, .slice none 0 0] 43) f0
  have hw3 : ¬ (m : Int) < 3 := by omega
  have hw4 : 3 ≤ m := by omega
  have h9 : 128 ≤ (x : Int) := by omega
  have e4 := hor.out
  clear hr hl e2 h8 e1 e3
  go_enter Try.func32, Try.ntmps32
  go_wp2_with fail
  go_region
  go_wp2
  exact bodyPost_ret (v := .tuple #[itv ((x : Int) - 125) (D : Int) (.slice none 0 0), .int .i64 3]) (by
    simp [results, Try.results32, go_sem, itv]; omega) rfl ⟨by rw [show ((x - 125 : Nat) : Int) = (x : Int) - 125 by omega]; rfl, ((Below.refl _ _).alloc (Nat.le_refl _) _).drew⟩

theorem run_neq_nil {P : Program} (w : World) (t e : TypeId) (a : Option Addr) (n c n' c' : Nat) (h : P.underlying t = some (.slice e)) :
    (binOp .neq t (.slice a n c) (.slice none n' c')).run P w = .ok (.bool (!a.isNone)) w := by
  simp only [binOp]
  simp [Op.equal, Op.maxDepth, Lib.run_equalIn_slice_nil w 9999 t e a n c n' c' h]


set_option maxRecDepth 100000 in
set_option maxHeartbeats 1000000 in
theorem fits_run (n d : Int) (b o m c : Nat) (N : Int) (w : World) :
    Calls Try.prog 24 #[itv n d (.slice (some ⟨b, o, none⟩) m c), .int .i64 N] w fun e w' => e = .returned (.bool true) ∧ Below w.heap.size w w' := by
  have en := fun W a n c => run_neq_nil (P := Try.prog) W 22 5 a n c 0 0 Try.underlying22
  unfold itv
  go_enter Try.func24, Try.ntmps24
  go_wp2
  go_ret
  exact ⟨rfl, (Below.refl _ _).alloc (Nat.le_refl _) _⟩
set_option maxRecDepth 100000 in
set_option maxHeartbeats 1000000 in
theorem fits_copy (n : Int) (d N : Nat) (w : World) :
    Calls Try.prog 24 #[itv n d (.slice none 0 0), .int .i64 N] w fun e w' => e = .returned (.bool (decide (1 ≤ d ∧ d ≤ N))) ∧ Below w.heap.size w w' := by
  have en := fun W a n c => run_neq_nil (P := Try.prog) W 22 5 a n c 0 0 Try.underlying22
  unfold itv
  by_cases h1 : 1 ≤ d
  · have h2 : 1 ≤ (d : Int) := by omega
    go_enter Try.func24, Try.ntmps24
    go_wp2
    go_ret
    exact ⟨by first | rfl | (congr 2; simp [h1]) | simp [h1], (Below.refl _ _).alloc (Nat.le_refl _) _⟩
  · have h2 : ¬ 1 ≤ (d : Int) := by omega
    go_enter Try.func24, Try.ntmps24
    go_wp2
    go_ret
    exact ⟨by first | rfl | (congr 2; simp [h1]) | simp [h1], (Below.refl _ _).alloc (Nat.le_refl _) _⟩

set_option maxRecDepth 100000 in
set_option maxHeartbeats 1000000 in
theorem put_run (n d : Int) (b o m c B k : Nat) (v : Value) (xs l : List Int) (w : World) (hB : B ≤ w.heap.size) (hown : w.ownsRow B 5 1 v k (xs.map (Value.int .u8))) (hr : Rw w (some ⟨b, o, none⟩) l) (hl : l.length = m) (h4 : k + m ≤ 4000000) :
    Calls Try.prog 25 #[itv n d (.slice (some ⟨b, o, none⟩) m c), v] w fun e w' => (∃ v', e = .returned v' ∧ w'.ownsRow B 5 1 v' (k + m) ((xs ++ l).map (Value.int .u8))) ∧ Below B w w' ∧ KeepsOthers w w' := by
  have en := fun W a n c => run_neq_nil (P := Try.prog) W 22 5 a n c 0 0 Try.underlying22
  have hb1 : Below w.heap.size w (w.alloc (.cells #[.int .i64 n, .int .i64 d, .slice (some ⟨b, o, none⟩) m c] 43)) := (Below.refl _ _).alloc (Nat.le_refl _) _
  have HO := Lib.hid (hown.alloc (.cells #[.int .i64 n, .int .i64 d, .slice (some ⟨b, o, none⟩) m c] 43))
  have HR := Lib.hid (hr.below hb1)
  have HB := Lib.hid (hb1.mono hB)
  have HL := Lib.hid hl
  have H4 := Lib.hid h4
  have HBB := Lib.hid hB
  obtain ⟨a0, c0, rfl⟩ := own_slice hown
  unfold itv
  clear hown hr hb1 hl h4 hB
  go_enter Try.func25, Try.ntmps25
  go_wp2_with (at_builtin; refine app8 rfl _ _ rfl B _ k xs rfl HO.out (some ⟨b, o, none⟩) m c l rfl HL.out HR.out.src H4.out (by have := HBB.out; simp; omega) ?_; intro v' w' hown' hb' hg' _)
  obtain ⟨a2, c2, rfl⟩ := own_slice hown'
  have HKO : Hid (KeepsOthers w w') := Lib.hid ((KeepsOthers.alloc w _).trans (keeps_grown HO.out hg'))
  have HO2 := Lib.hid hown'
  have HB2 := Lib.hid (HB.out.trans hb')
  clear hown' hb' hg'
  go_wp2
  go_ret
  exact ⟨⟨_, rfl, HO2.out⟩, HB2.out, HKO.out⟩

theorem cpy_U8 {o : List Int} {d : Nat} (h : ∀ x ∈ o, U8 x) : ∀ n, ∀ x ∈ cpy o d n, U8 x
  | 0 => h
  | n + 1 => fun x hx => by
    rw [cpy] at hx
    rcases List.mem_append.1 hx with g | g
    · exact cpy_U8 h n x g
    · rw [List.mem_singleton.1 g, List.getD_eq_getElem?_getD]
      rcases hj : (cpy o d n)[(cpy o d n).length - d]? with _ | y
      · show U8 0; unfold U8; omega
      · exact cpy_U8 h n y (List.mem_of_getElem? hj)

set_option maxRecDepth 100000 in
set_option maxHeartbeats 1000000 in
theorem put_copy (N d B k : Nat) (v : Value) (xs : List Int) (w : World) (hB : B ≤ w.heap.size) (hown : w.ownsRow B 5 1 v k (xs.map (Value.int .u8))) (hu : ∀ x ∈ xs, U8 x) (h1 : 1 ≤ d) (h2 : d ≤ k) (h4 : k + N ≤ 4000000) :
    Calls Try.prog 25 #[itv N d (.slice none 0 0), v] w fun e w' => (∃ v', e = .returned v' ∧ w'.ownsRow B 5 1 v' (k + N) ((cpy xs d N).map (Value.int .u8))) ∧ Below B w w' ∧ KeepsOthers w w' := by
  have en := fun W a n c => run_neq_nil (P := Try.prog) W 22 5 a n c 0 0 Try.underlying22
  have hk : xs.length = k := by simpa using hown.1
  obtain ⟨S, hS⟩ : ∃ S, w.heap.size = S := ⟨_, rfl⟩
  obtain ⟨W1, hW1⟩ : ∃ W1, w.alloc (.cells #[.int .i64 (N : Int), .int .i64 (d : Int), .slice none 0 0] 43) = W1 := ⟨_, rfl⟩
  have hb1 : Below w.heap.size w W1 := by rw [← hW1]; exact (Below.refl _ _).alloc (Nat.le_refl _) _
  have ho1 : W1.ownsRow B 5 1 v k (xs.map (Value.int .u8)) := by rw [← hW1]; exact hown.alloc _
  have hbk1 : Blk W1 S 43 #[.int .i64 (N : Int), .int .i64 (d : Int), .slice none 0 0] := by rw [← hW1, ← hS]; exact Blk.new _ _ _
  have hne := own_ne hown (Nat.le_of_eq hS)
  have hz1 : W1.heap.size = S + 1 := by rw [← hW1, ← hS]; simp
  have HO := Lib.hid ho1
  have HBk := Lib.hid hbk1
  have HB := Lib.hid (hb1.mono hB)
  have HNe := Lib.hid hne
  have HU := Lib.hid hu
  have HW1 := Lib.hid hW1
  have HS := Lib.hid hS
  have HK := Lib.hid hk
  obtain ⟨a0, c0, rfl⟩ := own_slice hown
  unfold itv
  clear hown hb1 hbk1 hne ho1 hu hW1 hk
  go_enter Try.func25, Try.ntmps25
  go_wp2_with fail
  rw [HW1.out]
  go_loopw [1, 14] (fun s1 s14 wr => ∃ j m : Nat, ∃ A cp, j ≤ N ∧ s14 = .int .i64 j ∧ s1 = .slice A m cp ∧ Hid (m = k + j) ∧ Hid (wr.ownsRow B 5 1 (.slice A m cp) m ((cpy xs d j).map (Value.int .u8))) ∧ Hid (Below B w wr ∧ KeepsOthers w wr) ∧ Hid (Blk wr S 43 #[.int .i64 (N : Int), .int .i64 (d : Int), .slice none 0 0]) ∧ Hid ((Value.slice A m cp).ownBlock ≠ some S)) (fun _ s14 _ => N - (intOf s14).toNat)
  case atStart => exact ⟨0, k, a0, c0, by omega, rfl, rfl, Lib.hid rfl, HO, Lib.hid ⟨HB.out, by rw [← HW1.out]; exact KeepsOthers.alloc w _⟩, HBk, HNe⟩
  case round =>
    obtain ⟨j, m, A, cp, hj, rfl, rfl, hm, hO, hBl, hBk, hNe⟩ := hrel
    by_cases hlt : j < N
    · obtain ⟨A', cp', he, hRw, -, -⟩ := Rw.of_own hO.out (cpy_U8 HU.out j)
      injection he with e1 _ e3
      subst e1 e3
      have hlen : (cpy xs d j).length = m := by have := cpy_length xs d j; have := HK.out; have := hm.out; omega
      obtain ⟨q, hq⟩ : ∃ q, q = m - d := ⟨_, rfl⟩
      have hmm := hm.out
      obtain ⟨g, off, rfl⟩ := hRw.addr (by omega)
      obtain ⟨hcell, h256⟩ := hRw.byte (j := q) (by omega)
      have e1 : (m : Int) - (d : Int) = (q : Int) := by omega
      have HX : Hid (cpy xs d (j + 1) = cpy xs d j ++ [(ba (cpy xs d j) q : Int)]) := Lib.hid (by
        rw [cpy, hlen, ← hq]
        congr 2
        unfold ba
        have : U8 ((cpy xs d j).getD q 0) := hRw.1 _ (by rw [List.getD_eq_getElem?_getD, List.getElem?_eq_getElem (by omega : q < (cpy xs d j).length)]; exact List.getElem_mem _)
        unfold U8 at this
        omega)
      generalize ba (cpy xs d j) q = x at hcell h256 HX
      have hx8 : U8 (x : Int) := by unfold U8; omega
      have qm : q < m := by omega
      have c0 := hBk.out.cell 0
      have c1 := hBk.out.cell 1
      have hbz := hBl.out.1.size
      have jN : (j : Int) < (N : Int) := by omega
      have hq62 : (q : Int) ≤ 4611686018427387903 := by omega
      clear hRw hlen hq hmm
      go_wp2_with (at_builtin; refine app8 rfl _ _ rfl B _ m _ rfl (hO.out.alloc _) (some ⟨wr.heap.size, 0, none⟩) 1 1 [(x : Int)] rfl rfl (rw_one wr _ hx8).src (by have := hm.out; omega) (by simp; omega) ?_; intro v' w' hown' hb' hg' ho')
      rw [← HX.out] at hown'
      obtain ⟨A2, c2, rfl⟩ := own_slice hown'
      have HO2 := Lib.hid hown'
      have HB2 : Hid (Below B w w' ∧ KeepsOthers w w') := Lib.hid ⟨(hBl.out.1.alloc (by have := hBl.out.1.size; omega) _).trans hb', (hBl.out.2.trans (KeepsOthers.alloc wr _)).trans (keeps_grown (hO.out.alloc _) hg')⟩
      have HBk2 := Lib.hid ((hBk.out.alloc (.cells #[.int .u8 (x : Int)] 5)).grown hg' hNe.out)
      have HNe2 : Hid ((Value.slice A2 (m + 1) c2).ownBlock ≠ some S) := Lib.hid (by
        rcases ho' with h | h
        · rw [h]; exact hNe.out
        · rw [h]; intro e; injection e with e; have := hBk.out.lt; simp at e; omega)
      clear hown' hb' hg' ho'
      go_wp2
      go_roundw
      case rel => exact ⟨j + 1, m + 1, A2, c2, by omega, by go_num, rfl, Lib.hid (by have := hm.out; omega), HO2, HB2, HBk2, HNe2⟩
      case measure => simp [intOf]; omega
    · have hjN : j = N := by omega
      subst hjN
      have c0 := hBk.out.cell 0
      go_wp2
      go_ret
      exact ⟨⟨_, rfl, by have := hm.out; subst this; exact hO.out⟩, hBl.out.1, hBl.out.2⟩
set_option maxRecDepth 100000 in
set_option maxHeartbeats 1000000 in
/-- a copy's three bytes behind others -/
theorem appendCopy_any (n d B k : Nat) (v u : Value) (xs : List Int) (w : World) (hB : B ≤ w.heap.size) (hown : w.ownsRow B 5 1 v k (xs.map (Value.int .u8))) (h1 : 3 ≤ n) (h2 : n ≤ 130) (h3 : d ≤ 4096) (h4 : k + 3 ≤ 4000000) :
    Calls Try.prog 20 #[v, itv n d u] w fun e w' => (∃ v', e = .returned v' ∧ w'.ownsRow B 5 1 v' (k + 3) ((xs ++ [((n + 125 : Nat) : Int), ((d % 256 : Nat) : Int), ((d / 256 : Nat) : Int)]).map (Value.int .u8))) ∧ Below B w w' ∧ KeepsOthers w w' := by
  obtain ⟨a0, c0, rfl⟩ := own_slice hown
  obtain ⟨W1, hW1⟩ : ∃ W1, w.alloc (.cells #[.int .i64 (n : Int), .int .i64 (d : Int), u] 43) = W1 := ⟨_, rfl⟩
  have hz1 : W1.heap.size = w.heap.size + 1 := by rw [← hW1]; simp
  have hb1 : Below B w W1 := by rw [← hW1]; exact ((Below.refl _ _).alloc (Nat.le_refl _) _).mono hB
  have ho1 := hown.alloc (.cells #[.int .i64 (n : Int), .int .i64 (d : Int), u] 43)
  have HO := Lib.hid ho1
  have HB := Lib.hid hb1
  have HW1 := Lib.hid hW1
  unfold itv
  clear hown hb1 ho1 hW1
  go_enter Try.func20, Try.ntmps20
  have hu3 : ∀ x ∈ [128 + (n : Int) - 3, (d : Int) % 256, (d : Int) / 256], U8 x := by
    intro x hx
    unfold U8
    simp at hx
    rcases hx with rfl | rfl | rfl <;> omega
  have HS : Hid (Src ((w.alloc (.cells #[.int .i64 (n : Int), .int .i64 (d : Int), u] 43)).alloc (.cells #[.int .u8 (128 + (n : Int) - 3), .int .u8 ((d : Int) % 256), .int .u8 ((d : Int) / 256)] 5)) (some ⟨w.heap.size + 1, 0, none⟩) [128 + (n : Int) - 3, (d : Int) % 256, (d : Int) / 256]) := Lib.hid (.inr ⟨_, rfl, fun j hj => by
    have hb := Blk.new (w.alloc (.cells #[.int .i64 (n : Int), .int .i64 (d : Int), u] 43)) 5 #[.int .u8 (128 + (n : Int) - 3), .int .u8 ((d : Int) % 256), .int .u8 ((d : Int) / 256)]
    rw [World.size_alloc] at hb
    have := hb.cell j
    simp at hj
    rw [show (⟨w.heap.size + 1, 0, none⟩ : Addr).add j = ⟨w.heap.size + 1, j, none⟩ by simp [Addr.add]; intro h; exact h.symm, this]
    rcases (by omega : j = 0 ∨ j = 1 ∨ j = 2) with rfl | rfl | rfl <;> rfl⟩)
  go_wp2_with (at_builtin; refine app8 rfl _ _ rfl B _ k xs rfl (HO.out.alloc _) (some ⟨w.heap.size + 1, 0, none⟩) 3 3 [128 + (n : Int) - 3, (d : Int) % 256, (d : Int) / 256] rfl rfl HS.out (by omega) (by simp; omega) ?_; intro v' w' hown' hb' hg' _)
  have HKO : Hid (KeepsOthers w w') := Lib.hid (((KeepsOthers.alloc w _).trans (KeepsOthers.alloc _ _)).trans (keeps_grown (HO.out.alloc _) hg'))
  obtain ⟨A2, c2, rfl⟩ := own_slice hown'
  rw [show 128 + (n : Int) - 3 = ((n + 125 : Nat) : Int) by omega, show (d : Int) % 256 = ((d % 256 : Nat) : Int) by omega, show (d : Int) / 256 = ((d / 256 : Nat) : Int) by omega] at hown'
  have HO2 := Lib.hid hown'
  have HB2 : Hid (Below B w w') := Lib.hid ((((Below.refl _ _).alloc hB _).alloc (by simp; omega) _).trans hb')
  clear hown' hb' hg'
  go_wp2
  go_ret
  exact ⟨⟨_, rfl, HO2.out⟩, HB2.out, HKO.out⟩
end Go.Proofs.Ytaohkakefdhecaa
