/-
  The bytes of an inode: what the document's Write answers.
-/
import Derived.Test.YtolahkfjlifnoaaInoRefR
import Derived.Test.YtolahkfjlifnoaaInoGet
namespace Go.Proofs.Ytolahkfjlifnoaa
open Go.RowKit Crcm Tagm Inom Go.ChangeShapes

set_option maxRecDepth 100000 in
/-- append of bytes onto a row of the call's own, and where the row lies behind it -/
theorem append_at {w : World} {ops : Array Oper} {rest : List Oper} {o : Oper} {a : Act} {Q : Exit → Act → World → Prop} (hgd : o.guard = none) (s x : Operand)
    (ho : o.op = .call { callee := .builtin .append, args := #[s, x], argTypes := #[25, 25] })
    (base : Nat) (v : Value) (n : Nat) (xs : List Int) (hs : a.eval s = v) (hown : w.ownsRow base 5 1 v n (xs.map (Value.int .u8)))
    (b off : Nat) (m c : Nat) (l : List Int) (hx : a.eval x = .slice (some ⟨b, off, none⟩) m c) (hl : l.length = m) (hr : Rw w (some ⟨b, off, none⟩) l) (h63 : n + m ≤ 1000000) (hbase : base ≤ w.heap.size)
    (h : ∀ v' w', w'.ownsRow base 5 1 v' (n + m) ((xs ++ l).map (Value.int .u8)) → Below base w w' → w.grownBy w' v.ownBlock → (v'.ownBlock = v.ownBlock ∨ v'.ownBlock = some w.heap.size) → wpList Try.prog ops Q rest (a.put o.dst v') w') : wpList Try.prog ops Q (o :: rest) a w := by
  obtain ⟨i0, hi, hz0, hz1, hz2⟩ := info_parts Try.info8
  refine wpList_append_own_at w hgd s x 25 ho base 5 i0 (.int .u8 0) 1 1 Try.underlying25 hi hz0 hz1 hz2 rfl (by decide) v n _ hs hown ⟨b, off, none⟩ m c (l.map (Value.int .u8)) hx (by simp [hl]) ?_ ?_ (by unfold maxLen; omega) (by omega) hbase ?_
  · intro j u hu
    rw [List.getElem?_map] at hu
    by_cases hj : j < l.length
    · rcases hr.2.2 with h0 | ⟨b', o', e, hc⟩
      · exact absurd hj (by rw [h0]; exact Nat.not_lt_zero _)
      · injection e with e; injection e with e1 e2; subst e1 e2
        rw [show (⟨b, off, none⟩ : Addr).add j = ⟨b, off + j, none⟩ by simp [Addr.add], hc j hj]
        simpa [List.getD_eq_getElem?_getD, hj] using hu
    · simp [List.getElem?_eq_none (by omega : l.length ≤ j)] at hu
  · intro u hu; obtain ⟨n, -, rfl⟩ := List.mem_map.1 hu; rfl
  · intro v' w' h1 h2 _ h4
    rw [← List.map_append] at h1
    exact h v' w' h1 ((Below.refl _ _).grown h2 hbase (fun g hg => (hown.lt g hg).1)) h2 h4

/-- what stands while the document writes an inode's bytes: the inode's own block, its pointers' block, the row so far -/
structure Vst (w W : World) (cs : Array Value) (g : Nat) (ps : Array Value) (v : Value) (n : Nat) (xs : List Int) : Prop where
  a : Blk W w.heap.size 24 cs
  o : W.ownsRow (w.heap.size + 1) 5 1 v n (xs.map (Value.int .u8))
  b : Below w.heap.size w W
  s : w.heap.size + 1 ≤ W.heap.size
  p : Blk W g 3 ps
  d : v.ownBlock ≠ some g
theorem Vst.big {w W W' : World} {cs ps : Array Value} {g : Nat} {v : Value} {n : Nat} {xs : List Int} (h : Vst w W cs g ps v n xs) (hb : Below W.heap.size W W') : Vst w W' cs g ps v n xs :=
  ⟨h.a.below hb h.a.lt, own_below h.o hb, h.b.trans (hb.mono h.b.size), Nat.le_trans h.s hb.size, h.p.below hb h.p.lt, h.d⟩
theorem Vst.app {w W W' : World} {cs ps : Array Value} {g : Nat} {v v' : Value} {n n' : Nat} {xs xs' : List Int} (h : Vst w W cs g ps v n xs) (ho : W'.ownsRow (w.heap.size + 1) 5 1 v' n' (xs'.map (Value.int .u8))) (hb : Below (w.heap.size + 1) W W') (hg : W.grownBy W' v.ownBlock) (hl : v'.ownBlock = v.ownBlock ∨ v'.ownBlock = some W.heap.size) : Vst w W' cs g ps v' n' xs' := by
  refine ⟨h.a.below hb (Nat.lt_succ_self _), ho, h.b.trans (hb.mono (Nat.le_succ _)), Nat.le_trans h.s hb.size, (hg.block g h.p.lt fun e => h.d e.symm).trans h.p, ?_⟩
  rcases hl with e | e
  · rw [e]; exact h.d
  · rw [e]; intro q; injection q with q; have := h.p.lt; omega

theorem irefwrite_no (i : Ind) (w : World) (h : ¬ IR i) : Calls Try.prog 19 #[iv i] w fun e w' => e = .returned (.tuple #[.slice none 0 0, .int .i64 51]) ∧ Below w.heap.size w w' := by
  have HR := Lib.hid (fun w => irefright_any i w)
  rw [decide_eq_false h] at HR
  clear h
  unfold iv at *
  go_enter Try.func19, Try.ntmps19
  go_wp2_with fail
  refine (HR.out _).mono ?_
  rintro e w1 ⟨rfl, hb1⟩
  go_wp2
  go_ret2
  exact ⟨rfl, ((Below.refl _ _).alloc (Nat.le_refl _) _).trans (hb1.mono (by simp))⟩

theorem u64same {n : Int} (h : U64 n) : IntKind.u64.wrap n = n := by obtain ⟨a, b⟩ := h; rw [IntKind.wrap_u64]; omega

set_option maxRecDepth 100000 in
set_option maxHeartbeats 8000000 in
theorem irefwrite_yes (i : Ind) (w : World) (h : IR i) : Calls Try.prog 19 #[iv i] w fun e w' => ∃ v, e = .returned (.tuple #[v, .int .i64 0]) ∧
      w'.ownsRow (w.heap.size + 1) 5 1 v 24 ((wb i).map (Value.int .u8)) ∧ Below w.heap.size w w' := by
  have HR := Lib.hid (fun w => irefright_any i w)
  have HPT := Lib.hid (fun w => refptrs_any i w)
  rw [decide_eq_true h] at HR
  obtain ⟨hk, hl, hs, ⟨p0, p1, p2, p3, p4, p5⟩, ps, pd⟩ := h.bd
  clear h
  obtain ⟨k, l, s, d0, d1, d2, d3, d4, d5, sg, db⟩ := i
  unfold iv at *
  simp only at hk hl hs p0 p1 p2 p3 p4 p5 ps pd
  obtain ⟨hk0, hk1⟩ := hk
  have hlU : U64 l := ⟨hl.1, by omega⟩
  have hsU : U64 s := ⟨hs.1, by omega⟩
  have hwl := u64same hlU
  have hws := u64same hsU
  have hw0 := u64same p0.u.1
  have hw1 := u64same p1.u.1
  have hw2 := u64same p2.u.1
  have hw3 := u64same p3.u.1
  have hw4 := u64same p4.u.1
  have hw5 := u64same p5.u.1
  have hw6 := u64same ps.u.1
  have hw7 := u64same pd.u.1
  have HU := Lib.hid (And.intro hlU hsU)
  clear hl hs hlU hsU
  go_enter Try.func19, Try.ntmps19
  have A0 := Lib.hid (Blk.new w 24 #[.int .i64 k, .int .i64 l, .int .i64 s, .int .i64 d0, .int .i64 d1, .int .i64 d2, .int .i64 d3, .int .i64 d4, .int .i64 d5, .int .i64 sg, .int .i64 db])
  go_wp2_with fail
  refine (HR.out _).mono ?_
  rintro e w1 ⟨rfl, hb1⟩
  have A1 := Lib.hid (A0.out.below hb1 A0.out.lt)
  have hs1 := hb1.size
  simp at hs1
  have HB1 := Lib.hid (((Below.refl w.heap.size w).alloc (Nat.le_refl _) _).trans (hb1.mono (by simp)))
  have hO2 : Hid ((w1.alloc (.cells #[.int .u8 k, .int .u8 0] 5)).ownsRow (w.heap.size + 1) 5 1 (.slice (some ⟨w1.heap.size, 0, none⟩) 2 2) 2 (([k, 0] : List Int).map (Value.int .u8))) := Lib.hid (World.ownsRow_lit w1 #[.int .u8 k, .int .u8 0] 2 hs1 (by unfold maxLen; omega) rfl)
  have A2 := Lib.hid (A1.out.alloc (.cells #[.int .u8 k, .int .u8 0] 5))
  have B2 : Hid (Below w.heap.size w (w1.alloc (.cells #[.int .u8 k, .int .u8 0] 5))) := Lib.hid (HB1.out.alloc HB1.out.size _)
  obtain ⟨c0, -⟩ := A1.out.eleven
  obtain ⟨-, c1, -⟩ := A2.out.eleven
  clear A0 hb1 HR
  go_wp2_with fail
  refine (big_any l 2 _ HU.out.1 (by omega)).mono ?_
  rintro r w3 ⟨a3, cap3, rfl, hr3, hb3⟩
  have ST3 : Wst w w3 #[.int .i64 k, .int .i64 l, .int .i64 s, .int .i64 d0, .int .i64 d1, .int .i64 d2, .int .i64 d3, .int .i64 d4, .int .i64 d5, .int .i64 sg, .int .i64 db] (.slice (some ⟨w1.heap.size, 0, none⟩) 2 2) 2 [k, 0] := ⟨A2.out.below hb3 A2.out.lt, own_below hO2.out hb3, B2.out.trans (hb3.mono B2.out.size), by have := hb3.size; simp at this; omega⟩
  have HST3 := Lib.hid ST3
  have HR3 := Lib.hid hr3.src
  clear hr3 hb3 ST3 c0 c1 A1 A2 B2 hO2 HB1 hs1
  go_wp2_with (at_builtin; refine append_bytes rfl _ _ rfl (w.heap.size + 1) _ _ [k, 0] rfl HST3.out.o a3 2 cap3 (le 2 l) rfl (le_length _ _) HR3.out (by omega) HST3.out.s ?_)
  intro v4 w4 ho hb
  have ho' : w4.ownsRow (w.heap.size + 1) 5 1 v4 4 (([k, 0] ++ le 2 l).map (Value.int .u8)) := by simpa using ho
  have ST4 := Lib.hid (HST3.out.next ho' hb)
  clear ho ho' hb HST3 HR3
  obtain ⟨-, -, c2, -⟩ := ST4.out.a.eleven
  go_wp2_with fail
  refine (big_any s 4 _ HU.out.2 (by omega)).mono ?_
  rintro r w5 ⟨a5, cap5, rfl, hr5, hb5⟩
  have ST5 : Hid (Wst w w5 #[.int .i64 k, .int .i64 l, .int .i64 s, .int .i64 d0, .int .i64 d1, .int .i64 d2, .int .i64 d3, .int .i64 d4, .int .i64 d5, .int .i64 sg, .int .i64 db] v4 4 ([k, 0] ++ le 2 l)) := Lib.hid ⟨ST4.out.a.below hb5 ST4.out.a.lt, own_below ST4.out.o hb5, ST4.out.b.trans (hb5.mono ST4.out.b.size), Nat.le_trans ST4.out.s hb5.size⟩
  have HR5 := Lib.hid hr5.src
  clear hr5 hb5 ST4 c2
  go_wp2_with (at_builtin; refine append_bytes rfl _ _ rfl (w.heap.size + 1) _ _ ([k, 0] ++ le 2 l) rfl ST5.out.o a5 4 cap5 (le 4 s) rfl (le_length _ _) HR5.out (by omega) ST5.out.s ?_)
  intro v6 w6 ho0 hb
  have ho : w6.ownsRow (w.heap.size + 1) 5 1 v6 8 (([k, 0] ++ le 2 l ++ le 4 s).map (Value.int .u8)) := by simpa using ho0
  have ST6 := Lib.hid (ST5.out.next ho hb)
  have hv6 : ∀ g, v6.ownBlock = some g → g < w6.heap.size := fun g hg => (ho.lt g hg).2
  have HV6 := Lib.hid hv6
  clear ho ho0 hb ST5 HR5 hv6
  obtain ⟨c0, c1, c2, c3, c4, c5, c6, c7, c8, c9, c10⟩ := ST6.out.a.eleven
  go_wp2_with fail
  refine (refptrs_any ⟨k, l, s, d0, d1, d2, d3, d4, d5, sg, db⟩ _).mono ?_
  rintro r w7 ⟨⟨g, rfl, hgs, hg⟩, hb7⟩
  have ST7 : Hid (Vst w w7 #[.int .i64 k, .int .i64 l, .int .i64 s, .int .i64 d0, .int .i64 d1, .int .i64 d2, .int .i64 d3, .int .i64 d4, .int .i64 d5, .int .i64 sg, .int .i64 db] g #[.int .i64 d0, .int .i64 d1, .int .i64 d2, .int .i64 d3, .int .i64 d4, .int .i64 d5, .int .i64 sg, .int .i64 db] v6 (8 + 2 * 0) ([k, 0] ++ le 2 l ++ le 4 s ++ ([d0, d1, d2, d3, d4, d5, sg, db].take 0).flatMap (le 2))) := Lib.hid
    ⟨ST6.out.a.below hb7 ST6.out.a.lt, by simpa using own_below ST6.out.o hb7, ST6.out.b.trans (hb7.mono ST6.out.b.size), Nat.le_trans ST6.out.s hb7.size, hg, fun e => by have := HV6.out g e; omega⟩
  clear hb7 hg hgs ST6 HV6 c0 c1 c2 c3 c4 c5 c6 c7 c8 c9 c10
  go_wp2_with fail
  go_loopw [4, 6] (fun v i wr => ∃ n : Nat, n ≤ 8 ∧ i = .int .i64 n ∧ Hid (Vst w wr #[.int .i64 k, .int .i64 l, .int .i64 s, .int .i64 d0, .int .i64 d1, .int .i64 d2, .int .i64 d3, .int .i64 d4, .int .i64 d5, .int .i64 sg, .int .i64 db] g #[.int .i64 d0, .int .i64 d1, .int .i64 d2, .int .i64 d3, .int .i64 d4, .int .i64 d5, .int .i64 sg, .int .i64 db] v (8 + 2 * n) ([k, 0] ++ le 2 l ++ le 4 s ++ ([d0, d1, d2, d3, d4, d5, sg, db].take n).flatMap (le 2)))) (fun _ i _ => 8 - (intOf i).toNat)
  case atStart => exact ⟨0, by omega, rfl, ST7⟩
  case round =>
    obtain ⟨n, hn, rfl, hO⟩ := hrel
    clear ST7
    have hc : n = 0 ∨ n = 1 ∨ n = 2 ∨ n = 3 ∨ n = 4 ∨ n = 5 ∨ n = 6 ∨ n = 7 ∨ n = 8 := by omega
    rcases hc with rfl | rfl | rfl | rfl | rfl | rfl | rfl | rfl | rfl
    · obtain ⟨c0, c1, c2, c3, c4, c5, c6, c7⟩ := hO.out.p.eight
      go_wp2_with fail
      refine (big_any d0 2 _ p0.u.1 (by omega)).mono ?_
      rintro r w8 ⟨a8, cap8, rfl, hr8, hb8⟩
      obtain ⟨b8, o8, rfl⟩ := hr8.addr (by rw [le_length]; omega)
      have HR8 := Lib.hid hr8
      have ST8 := Lib.hid (hO.out.big hb8)
      clear hr8 hb8 hO c0 c1 c2 c3 c4 c5 c6 c7
      go_wp2_with (at_builtin; refine append_at rfl _ _ rfl (w.heap.size + 1) _ _ _ rfl ST8.out.o b8 o8 2 cap8 (le 2 d0) rfl (le_length _ _) HR8.out (by omega) ST8.out.s ?_)
      intro v9 w9 ho0 hb hgr hloc
      have ho : w9.ownsRow (w.heap.size + 1) 5 1 v9 (8 + 2 * 1) (([k, 0] ++ le 2 l ++ le 4 s ++ ([d0, d1, d2, d3, d4, d5, sg, db].take 1).flatMap (le 2)).map (Value.int .u8)) := by simpa using ho0
      have ST9 := Lib.hid (ST8.out.app ho hb hgr hloc)
      clear ho ho0 hb hgr hloc ST8 HR8
      go_wp2
      go_roundw
      case rel => exact ⟨1, by omega, rfl, ST9⟩
      case measure => simp [intOf]
    · obtain ⟨c0, c1, c2, c3, c4, c5, c6, c7⟩ := hO.out.p.eight
      go_wp2_with fail
      refine (big_any d1 2 _ p1.u.1 (by omega)).mono ?_
      rintro r w8 ⟨a8, cap8, rfl, hr8, hb8⟩
      obtain ⟨b8, o8, rfl⟩ := hr8.addr (by rw [le_length]; omega)
      have HR8 := Lib.hid hr8
      have ST8 := Lib.hid (hO.out.big hb8)
      clear hr8 hb8 hO c0 c1 c2 c3 c4 c5 c6 c7
      go_wp2_with (at_builtin; refine append_at rfl _ _ rfl (w.heap.size + 1) _ _ _ rfl ST8.out.o b8 o8 2 cap8 (le 2 d1) rfl (le_length _ _) HR8.out (by omega) ST8.out.s ?_)
      intro v9 w9 ho0 hb hgr hloc
      have ho : w9.ownsRow (w.heap.size + 1) 5 1 v9 (8 + 2 * 2) (([k, 0] ++ le 2 l ++ le 4 s ++ ([d0, d1, d2, d3, d4, d5, sg, db].take 2).flatMap (le 2)).map (Value.int .u8)) := by simpa using ho0
      have ST9 := Lib.hid (ST8.out.app ho hb hgr hloc)
      clear ho ho0 hb hgr hloc ST8 HR8
      go_wp2
      go_roundw
      case rel => exact ⟨2, by omega, rfl, ST9⟩
      case measure => simp [intOf]
    · obtain ⟨c0, c1, c2, c3, c4, c5, c6, c7⟩ := hO.out.p.eight
      go_wp2_with fail
      refine (big_any d2 2 _ p2.u.1 (by omega)).mono ?_
      rintro r w8 ⟨a8, cap8, rfl, hr8, hb8⟩
      obtain ⟨b8, o8, rfl⟩ := hr8.addr (by rw [le_length]; omega)
      have HR8 := Lib.hid hr8
      have ST8 := Lib.hid (hO.out.big hb8)
      clear hr8 hb8 hO c0 c1 c2 c3 c4 c5 c6 c7
      go_wp2_with (at_builtin; refine append_at rfl _ _ rfl (w.heap.size + 1) _ _ _ rfl ST8.out.o b8 o8 2 cap8 (le 2 d2) rfl (le_length _ _) HR8.out (by omega) ST8.out.s ?_)
      intro v9 w9 ho0 hb hgr hloc
      have ho : w9.ownsRow (w.heap.size + 1) 5 1 v9 (8 + 2 * 3) (([k, 0] ++ le 2 l ++ le 4 s ++ ([d0, d1, d2, d3, d4, d5, sg, db].take 3).flatMap (le 2)).map (Value.int .u8)) := by simpa using ho0
      have ST9 := Lib.hid (ST8.out.app ho hb hgr hloc)
      clear ho ho0 hb hgr hloc ST8 HR8
      go_wp2
      go_roundw
      case rel => exact ⟨3, by omega, rfl, ST9⟩
      case measure => simp [intOf]
    · obtain ⟨c0, c1, c2, c3, c4, c5, c6, c7⟩ := hO.out.p.eight
      go_wp2_with fail
      refine (big_any d3 2 _ p3.u.1 (by omega)).mono ?_
      rintro r w8 ⟨a8, cap8, rfl, hr8, hb8⟩
      obtain ⟨b8, o8, rfl⟩ := hr8.addr (by rw [le_length]; omega)
      have HR8 := Lib.hid hr8
      have ST8 := Lib.hid (hO.out.big hb8)
      clear hr8 hb8 hO c0 c1 c2 c3 c4 c5 c6 c7
      go_wp2_with (at_builtin; refine append_at rfl _ _ rfl (w.heap.size + 1) _ _ _ rfl ST8.out.o b8 o8 2 cap8 (le 2 d3) rfl (le_length _ _) HR8.out (by omega) ST8.out.s ?_)
      intro v9 w9 ho0 hb hgr hloc
      have ho : w9.ownsRow (w.heap.size + 1) 5 1 v9 (8 + 2 * 4) (([k, 0] ++ le 2 l ++ le 4 s ++ ([d0, d1, d2, d3, d4, d5, sg, db].take 4).flatMap (le 2)).map (Value.int .u8)) := by simpa using ho0
      have ST9 := Lib.hid (ST8.out.app ho hb hgr hloc)
      clear ho ho0 hb hgr hloc ST8 HR8
      go_wp2
      go_roundw
      case rel => exact ⟨4, by omega, rfl, ST9⟩
      case measure => simp [intOf]
    · obtain ⟨c0, c1, c2, c3, c4, c5, c6, c7⟩ := hO.out.p.eight
      go_wp2_with fail
      refine (big_any d4 2 _ p4.u.1 (by omega)).mono ?_
      rintro r w8 ⟨a8, cap8, rfl, hr8, hb8⟩
      obtain ⟨b8, o8, rfl⟩ := hr8.addr (by rw [le_length]; omega)
      have HR8 := Lib.hid hr8
      have ST8 := Lib.hid (hO.out.big hb8)
      clear hr8 hb8 hO c0 c1 c2 c3 c4 c5 c6 c7
      go_wp2_with (at_builtin; refine append_at rfl _ _ rfl (w.heap.size + 1) _ _ _ rfl ST8.out.o b8 o8 2 cap8 (le 2 d4) rfl (le_length _ _) HR8.out (by omega) ST8.out.s ?_)
      intro v9 w9 ho0 hb hgr hloc
      have ho : w9.ownsRow (w.heap.size + 1) 5 1 v9 (8 + 2 * 5) (([k, 0] ++ le 2 l ++ le 4 s ++ ([d0, d1, d2, d3, d4, d5, sg, db].take 5).flatMap (le 2)).map (Value.int .u8)) := by simpa using ho0
      have ST9 := Lib.hid (ST8.out.app ho hb hgr hloc)
      clear ho ho0 hb hgr hloc ST8 HR8
      go_wp2
      go_roundw
      case rel => exact ⟨5, by omega, rfl, ST9⟩
      case measure => simp [intOf]
    · obtain ⟨c0, c1, c2, c3, c4, c5, c6, c7⟩ := hO.out.p.eight
      go_wp2_with fail
      refine (big_any d5 2 _ p5.u.1 (by omega)).mono ?_
      rintro r w8 ⟨a8, cap8, rfl, hr8, hb8⟩
      obtain ⟨b8, o8, rfl⟩ := hr8.addr (by rw [le_length]; omega)
      have HR8 := Lib.hid hr8
      have ST8 := Lib.hid (hO.out.big hb8)
      clear hr8 hb8 hO c0 c1 c2 c3 c4 c5 c6 c7
      go_wp2_with (at_builtin; refine append_at rfl _ _ rfl (w.heap.size + 1) _ _ _ rfl ST8.out.o b8 o8 2 cap8 (le 2 d5) rfl (le_length _ _) HR8.out (by omega) ST8.out.s ?_)
      intro v9 w9 ho0 hb hgr hloc
      have ho : w9.ownsRow (w.heap.size + 1) 5 1 v9 (8 + 2 * 6) (([k, 0] ++ le 2 l ++ le 4 s ++ ([d0, d1, d2, d3, d4, d5, sg, db].take 6).flatMap (le 2)).map (Value.int .u8)) := by simpa using ho0
      have ST9 := Lib.hid (ST8.out.app ho hb hgr hloc)
      clear ho ho0 hb hgr hloc ST8 HR8
      go_wp2
      go_roundw
      case rel => exact ⟨6, by omega, rfl, ST9⟩
      case measure => simp [intOf]
    · obtain ⟨c0, c1, c2, c3, c4, c5, c6, c7⟩ := hO.out.p.eight
      go_wp2_with fail
      refine (big_any sg 2 _ ps.u.1 (by omega)).mono ?_
      rintro r w8 ⟨a8, cap8, rfl, hr8, hb8⟩
      obtain ⟨b8, o8, rfl⟩ := hr8.addr (by rw [le_length]; omega)
      have HR8 := Lib.hid hr8
      have ST8 := Lib.hid (hO.out.big hb8)
      clear hr8 hb8 hO c0 c1 c2 c3 c4 c5 c6 c7
      go_wp2_with (at_builtin; refine append_at rfl _ _ rfl (w.heap.size + 1) _ _ _ rfl ST8.out.o b8 o8 2 cap8 (le 2 sg) rfl (le_length _ _) HR8.out (by omega) ST8.out.s ?_)
      intro v9 w9 ho0 hb hgr hloc
      have ho : w9.ownsRow (w.heap.size + 1) 5 1 v9 (8 + 2 * 7) (([k, 0] ++ le 2 l ++ le 4 s ++ ([d0, d1, d2, d3, d4, d5, sg, db].take 7).flatMap (le 2)).map (Value.int .u8)) := by simpa using ho0
      have ST9 := Lib.hid (ST8.out.app ho hb hgr hloc)
      clear ho ho0 hb hgr hloc ST8 HR8
      go_wp2
      go_roundw
      case rel => exact ⟨7, by omega, rfl, ST9⟩
      case measure => simp [intOf]
    · obtain ⟨c0, c1, c2, c3, c4, c5, c6, c7⟩ := hO.out.p.eight
      go_wp2_with fail
      refine (big_any db 2 _ pd.u.1 (by omega)).mono ?_
      rintro r w8 ⟨a8, cap8, rfl, hr8, hb8⟩
      obtain ⟨b8, o8, rfl⟩ := hr8.addr (by rw [le_length]; omega)
      have HR8 := Lib.hid hr8
      have ST8 := Lib.hid (hO.out.big hb8)
      clear hr8 hb8 hO c0 c1 c2 c3 c4 c5 c6 c7
      go_wp2_with (at_builtin; refine append_at rfl _ _ rfl (w.heap.size + 1) _ _ _ rfl ST8.out.o b8 o8 2 cap8 (le 2 db) rfl (le_length _ _) HR8.out (by omega) ST8.out.s ?_)
      intro v9 w9 ho0 hb hgr hloc
      have ho : w9.ownsRow (w.heap.size + 1) 5 1 v9 (8 + 2 * 8) (([k, 0] ++ le 2 l ++ le 4 s ++ ([d0, d1, d2, d3, d4, d5, sg, db].take 8).flatMap (le 2)).map (Value.int .u8)) := by simpa using ho0
      have ST9 := Lib.hid (ST8.out.app ho hb hgr hloc)
      clear ho ho0 hb hgr hloc ST8 HR8
      go_wp2
      go_roundw
      case rel => exact ⟨8, by omega, rfl, ST9⟩
      case measure => simp [intOf]
    · go_wp2
      go_ret2
      refine ⟨_, rfl, ?_, hO.out.b⟩
      have h := hO.out.o
      have e : k % 256 = k := by omega
      have e2 : wb ⟨k, l, s, d0, d1, d2, d3, d4, d5, sg, db⟩ = [k, 0] ++ le 2 l ++ le 4 s ++ ([d0, d1, d2, d3, d4, d5, sg, db].take 8).flatMap (le 2) := by
        unfold wb dsl
        simp only [e]
        simp
      rw [e2]
      exact h

end Go.Proofs.Ytolahkfjlifnoaa
