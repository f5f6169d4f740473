/-
  The document's items.
-/
import Derived.Test.YtaohkakefdhecaaSqLawC
import Derived.Test.YtaohkakefdhecaaSqPre
namespace Sqm
open Go
/-- the first so many items, as they lie in memory -/
def its (l : List Int) : Nat → List Value
  | 0 => []
  | k + 1 => its l k ++ [.int .i64 (Sqm.cnt l (pl l k) : Int), .int .i64 (far l (pl l k) : Int), .int .i64 (pl l (k + 1) : Int)]
end Sqm
namespace Go.Proofs.Ytaohkakefdhecaa
open Go.RowKit Go.Shelf Crcm Sqm Tagm Inom Roomm Go.ChangeShapes

theorem infoItem : (Try.prog.info? 38).map (fun i => (i.zero, i.size, i.bytes)) = some (some (.agg #[.int .i64 0, .int .i64 0, .int .i64 0]), 3, 24) := by kernel_rfl
theorem Rw.at {w : World} {b off : Nat} {l : List Int} (h : Rw w (some ⟨b, off, none⟩) l) {p : Nat} (hp : p < l.length) : w.cell? ⟨b, off + p, none⟩ = some (.int .u8 (ba l p)) ∧ ba l p < 256 := h.byte hp
/-- an item is put behind the others -/
theorem appI {w : World} {ops : Array Oper} {rest : List Oper} {o : Oper} {a : Act} {Q : Exit → Act → World → Prop} (hgd : o.guard = none) (s x : Operand)
    (ho : o.op = .call { callee := .builtin .append, args := #[s, x], argTypes := #[31, 31] })
    (base : Nat) (v : Value) (n : Nat) (xs : List Value) (hs : a.eval s = v) (hown : w.ownsRow base 38 3 v n xs)
    (g : Nat) (c : Nat) (y0 y1 y2 : Int) (hx : a.eval x = .slice (some ⟨g, 0, none⟩) 1 c) (hb : Blk w g 38 #[.int .i64 y0, .int .i64 y1, .int .i64 y2]) (h63 : n + 1 ≤ 4000000) (hbase : base ≤ w.heap.size)
    (h : ∀ v' w', w'.ownsRow base 38 3 v' (n + 1) (xs ++ [.int .i64 y0, .int .i64 y1, .int .i64 y2]) → Below base w w' → w.grownBy w' v.ownBlock → wpList Try.prog ops Q rest (a.put o.dst v') w') : wpList Try.prog ops Q (o :: rest) a w := by
  obtain ⟨i0, hi, hz0, hz1, hz2⟩ := info_parts infoItem
  refine wpList_append_own_at w hgd s x 31 ho base 38 i0 _ 3 24 Try.underlying31 hi hz0 hz1 hz2 rfl (by decide) v n _ hs hown ⟨g, 0, none⟩ 1 c [.int .i64 y0, .int .i64 y1, .int .i64 y2] hx rfl ?_ ?_ (by unfold maxLen; omega) (by omega) hbase ?_
  · intro j u hu
    have := hb.cell j
    rw [Addr.add_lit, Nat.zero_add, this]
    simpa using hu
  · intro u hu
    simp at hu
    rcases hu with rfl | rfl | rfl <;> rfl
  · intro v' w' h1 h2 _ h4
    exact h v' w' h1 ((Below.refl _ _).grown h2 hbase (fun g hg => (hown.lt g hg).1)) h2
theorem own_sliceI {w : World} {base k : Nat} {v : Value} {xs : List Value} {e : TypeId} (h : w.ownsRow base e 3 v k xs) : ∃ a c, v = .slice a k c := by
  rcases h.2 with ⟨rfl, rfl⟩ | ⟨g, cap, cur, rfl, _⟩
  · exact ⟨none, 0, rfl⟩
  · exact ⟨_, cap, rfl⟩

set_option maxRecDepth 100000 in
set_option maxHeartbeats 4000000 in
theorem ritems_any (a : Option Addr) (m c : Nat) (l : List Int) (w : World) (hr : Rw w a l) (hl : l.length = m) (hm : m ≤ 70000) :
    Calls Try.prog 15 #[.slice a m c] w fun e w' => (∃ K A cap, e = .returned (.slice A K cap) ∧ w'.ownsRow w.heap.size 38 3 (.slice A K cap) K (its l K) ∧ K ≤ kn l ∧ (∀ j, j < K → wh l (pl l j) = true) ∧ (K = kn l ∨ (K < kn l ∧ wh l (pl l K) = false))) ∧ Below w.heap.size w w' := by
  have HM := Lib.hid hm
  have HL := Lib.hid hl
  have HR := Lib.hid hr
  have hmI : (m : Int) ≤ 70000 := by omega
  clear hm hl hr
  go_enter Try.func15, Try.ntmps15
  go_wp2_with fail
  go_loopw [2, 3, 4] (fun _ s3 s4 wr => ∃ k p : Nat, ∃ A ca, s3 = .slice A k ca ∧ s4 = .int .i64 (p : Int) ∧ p ≤ m ∧ Hid (p = pl l k ∧ k ≤ kn l ∧ (∀ j, j < k → wh l (pl l j) = true)) ∧ Hid (wr.ownsRow w.heap.size 38 3 (.slice A k ca) k (its l k)) ∧ Hid (Below w.heap.size w wr)) (fun _ _ s4 _ => m - (intOf s4).toNat)
  case atStart => exact ⟨0, 0, none, 0, rfl, rfl, Nat.zero_le _, Lib.hid ⟨rfl, Nat.zero_le _, fun j hj => absurd hj (Nat.not_lt_zero _)⟩, Lib.hid (World.ownsRow_nil _ _ _ _), Lib.hid (Below.refl _ _)⟩
  case round =>
    obtain ⟨k, p, A, ca, rfl, rfl, hpm, hK, hO, hB⟩ := hrel
    have hk7 : k ≤ 70000 := by have := kn_le l; have := hK.out.2.1; have := HL.out; have := HM.out; omega
    by_cases hlt : p < m
    · obtain ⟨b, off, rfl⟩ := HR.out.addr (by have := HL.out; omega)
      have hRw := HR.out.below hB.out
      obtain ⟨cb, h256⟩ := hRw.at (p := p) (by have := HL.out; omega)
      have hkn : k < kn l := kn_lt hK.out.2.1 (by rw [← hK.out.1, HL.out]; exact hlt)
      have hltI : (p : Int) < (m : Int) := by omega
      have HKN := Lib.hid hkn
      by_cases h8 : ba l p < 128
      · have e1 : sz l p = ba l p + 2 := by unfold sz; rw [if_pos h8]
        have e2 : Sqm.cnt l p = ba l p + 1 := by unfold Sqm.cnt; rw [if_pos h8]
        have e3 : far l p = 0 := by unfold far; rw [if_pos h8]
        by_cases hw : p + (ba l p + 2) ≤ m
        · have hwh : wh l p = true := decide_eq_true (by rw [e1, HL.out]; exact hw)
          have HPl : Hid (pl l (k + 1) = p + (ba l p + 2)) := Lib.hid (by rw [pl_wh (by rw [← hK.out.1]; exact hwh), ← hK.out.1, e1])
          have HIt : Hid (its l (k + 1) = its l k ++ [.int .i64 ((ba l p : Int) + 1), .int .i64 0, .int .i64 ((p : Int) + (ba l p : Int) + 2)]) := Lib.hid (by
            rw [its, HPl.out, ← hK.out.1, e2, e3]
            congr 4)
          have HK2 : Hid (p + (ba l p + 2) = pl l (k + 1) ∧ k + 1 ≤ kn l ∧ (∀ j, j < k + 1 → wh l (pl l j) = true)) := Lib.hid ⟨HPl.out.symm, hkn, fun j hj => by
            rcases Nat.lt_succ_iff_lt_or_eq.1 hj with h | rfl
            · exact hK.out.2.2 j h
            · rw [← hK.out.1]; exact hwh⟩
          generalize ba l p = x at *
          clear e1 e2 e3 hwh hRw hkn
          go_wp2_with (at_builtin; refine appI rfl _ _ rfl w.heap.size _ k _ rfl ((hO.out.alloc _).alloc _) (wr.heap.size + 1) 1 ((x : Int) + 1) 0 ((p : Int) + (x : Int) + 2) rfl (by have h := Blk.new (wr.alloc (.cells #[.int .i64 ((x : Int) + 1), .int .i64 0, .int .i64 ((p : Int) + (x : Int) + 2)] 38)) 38 #[.int .i64 ((x : Int) + 1), .int .i64 0, .int .i64 ((p : Int) + (x : Int) + 2)]; rw [World.size_alloc] at h; exact h) (by omega) (by have := hB.out.size; simp; omega) ?_; intro v' w' hown' hb' hg'; have z := ((Blk.new wr 38 #[.int .i64 ((x : Int) + 1), .int .i64 0, .int .i64 ((p : Int) + (x : Int) + 2)]).alloc (.cells #[.int .i64 ((x : Int) + 1), .int .i64 0, .int .i64 ((p : Int) + (x : Int) + 2)] 38)).grown hg' (fun e => by have := (hO.out.lt _ e).2; omega); have z2 := z.cell 2)
          obtain ⟨A2, c2, rfl⟩ := own_sliceI hown'
          rw [← HIt.out] at hown'
          refine ⟨⟨k + 1, p + (x + 2), A2, c2, rfl, by go_num, hw, HK2, Lib.hid hown', Lib.hid (((hB.out.alloc hB.out.size _).alloc (by have := hB.out.size; simp; omega) _).trans hb')⟩, ?_⟩
          simp [intOf]; omega
        · have hwh : wh l p = false := decide_eq_false (by rw [e1, HL.out]; exact hw)
          have HE := Lib.hid (show wh l (pl l k) = false by rw [← hK.out.1]; exact hwh)
          generalize ba l p = x at *
          clear e1 e2 e3 hwh hRw hkn
          go_wp2
          go_ret
          exact ⟨⟨k, A, ca, rfl, (hO.out.alloc _), hK.out.2.1, hK.out.2.2, .inr ⟨HKN.out, HE.out⟩⟩, hB.out.alloc hB.out.size _⟩
      · have e1 : sz l p = 3 := by unfold sz; rw [if_neg h8]
        have e2 : Sqm.cnt l p = ba l p - 125 := by unfold Sqm.cnt; rw [if_neg h8]
        by_cases hw : p + 3 ≤ m
        · have hwh : wh l p = true := decide_eq_true (by rw [e1, HL.out]; exact hw)
          have e3 : far l p = ba l (p + 1) + 256 * ba l (p + 2) := by unfold far; rw [if_neg h8]
          obtain ⟨cb1, h1⟩ := hRw.at (p := p + 1) (by have := HL.out; omega)
          obtain ⟨cb2, h2⟩ := hRw.at (p := p + 2) (by have := HL.out; omega)
          have HPl : Hid (pl l (k + 1) = p + 3) := Lib.hid (by rw [pl_wh (by rw [← hK.out.1]; exact hwh), ← hK.out.1, e1])
          have HIt : Hid (its l (k + 1) = its l k ++ [.int .i64 ((ba l p : Int) - 125), .int .i64 ((ba l (p + 1) : Int) + 256 * (ba l (p + 2) : Int)), .int .i64 ((p : Int) + 3)]) := Lib.hid (by
            rw [its, HPl.out, ← hK.out.1, e2, e3, show ((ba l p - 125 : Nat) : Int) = (ba l p : Int) - 125 by omega]
            congr 4)
          have HK2 : Hid (p + 3 = pl l (k + 1) ∧ k + 1 ≤ kn l ∧ (∀ j, j < k + 1 → wh l (pl l j) = true)) := Lib.hid ⟨HPl.out.symm, hkn, fun j hj => by
            rcases Nat.lt_succ_iff_lt_or_eq.1 hj with h | rfl
            · exact hK.out.2.2 j h
            · rw [← hK.out.1]; exact hwh⟩
          generalize ba l (p + 1) = y at *
          generalize ba l (p + 2) = v at *
          generalize ba l p = x at *
          clear e1 e2 e3 hwh hRw hkn
          have h8I : (127 : Int) < (x : Int) := by omega
          have hBa : Below wr.heap.size wr (wr.alloc (.cells #[.int .i64 ((x : Int) + 1), .int .i64 0, .int .i64 ((p : Int) + (x : Int) + 2)] 38)).drew := ((Below.refl _ wr).alloc (Nat.le_refl _) _).drew
          have cd1 := (hBa.cell (block_lt_of_cell cb1)).trans cb1
          have cd2 := (hBa.cell (block_lt_of_cell cb2)).trans cb2
          have hbx : Blk (wr.alloc (.cells #[.int .i64 ((x : Int) + 1), .int .i64 0, .int .i64 ((p : Int) + (x : Int) + 2)] 38)).drew wr.heap.size 38 #[.int .i64 ((x : Int) + 1), .int .i64 0, .int .i64 ((p : Int) + (x : Int) + 2)] := Blk.new wr _ _
          have bx0 := hbx.cell 0
          have bx1 := hbx.cell 1
          have bx2 := hbx.cell 2
          have fx0 := hbx.frozen 0
          have fx1 := hbx.frozen 1
          have fx2 := hbx.frozen 2
          have q1 : IntKind.i64.wrap ((x : Int) - 125) = (x : Int) - 125 := by rw [IntKind.wrap_i64]; omega
          have q2 : IntKind.i64.wrap ((p : Int) + 1) = (p : Int) + 1 := by rw [IntKind.wrap_i64]; omega
          have q3 : IntKind.i64.wrap ((p : Int) + 2) = (p : Int) + 2 := by rw [IntKind.wrap_i64]; omega
          have q4 : IntKind.i64.wrap ((p : Int) + 3) = (p : Int) + 3 := by rw [IntKind.wrap_i64]; omega
          have q5 : IntKind.i64.wrap (256 * (v : Int)) = 256 * (v : Int) := by rw [IntKind.wrap_i64]; omega
          have q6 : IntKind.i64.wrap ((y : Int) + 256 * (v : Int)) = (y : Int) + 256 * (v : Int) := by rw [IntKind.wrap_i64]; omega
          have q7 : IntKind.i64.wrap (y : Int) = (y : Int) := by rw [IntKind.wrap_i64]; omega
          have q8 : IntKind.i64.wrap (v : Int) = (v : Int) := by rw [IntKind.wrap_i64]; omega
          go_wp2_with fail
          have hbx3 : Blk (wr.alloc (.cells #[.int .i64 ((x : Int) - 125), .int .i64 ((y : Int) + 256 * (v : Int)), .int .i64 ((p : Int) + 3)] 38)).drew wr.heap.size 38 #[.int .i64 ((x : Int) - 125), .int .i64 ((y : Int) + 256 * (v : Int)), .int .i64 ((p : Int) + 3)] := Blk.new wr _ _
          have hO3 : (wr.alloc (.cells #[.int .i64 ((x : Int) - 125), .int .i64 ((y : Int) + 256 * (v : Int)), .int .i64 ((p : Int) + 3)] 38)).drew.ownsRow w.heap.size 38 3 (.slice A k ca) k (its l k) := hO.out.alloc _
          have hB3 : Below w.heap.size w (wr.alloc (.cells #[.int .i64 ((x : Int) - 125), .int .i64 ((y : Int) + 256 * (v : Int)), .int .i64 ((p : Int) + 3)] 38)).drew := (hB.out.alloc hB.out.size _).drew
          have hz3 : (wr.alloc (.cells #[.int .i64 ((x : Int) - 125), .int .i64 ((y : Int) + 256 * (v : Int)), .int .i64 ((p : Int) + 3)] 38)).drew.heap.size = wr.heap.size + 1 := by show (wr.alloc _).heap.size = _; rw [World.size_alloc]
          have HX3 := Lib.hid hbx3
          have HO3 := Lib.hid hO3
          have HB3 := Lib.hid hB3
          have HZ3 := Lib.hid hz3
          clear hbx3 hO3 hB3 hz3
          go_region_with (fail)
          all_goals
            clear bx0 bx1 bx2 fx0 fx1 fx2 cd1 cd2 hbx hBa q1 q2 q3 q4 q5 q6 q7 q8
            have hbx3 := HX3.out
            have HO4 := HO3
            have HB4 := HB3
            have HZ4 := HZ3
            generalize (wr.alloc (.cells #[.int .i64 ((x : Int) - 125), .int .i64 ((y : Int) + 256 * (v : Int)), .int .i64 ((p : Int) + 3)] 38)).drew = W3 at hbx3 HO4 HB4 HZ4 ⊢
            have b0 := hbx3.cell 0
            have b1 := hbx3.cell 1
            have b2 := hbx3.cell 2
            go_wp2_with (at_builtin; refine appI rfl _ _ rfl w.heap.size _ k _ rfl (HO4.out.alloc _) W3.heap.size 1 ((x : Int) - 125) ((y : Int) + 256 * (v : Int)) ((p : Int) + 3) rfl (Blk.new W3 _ _) (by omega) (by have := HB4.out.size; simp; omega) ?_; intro v' w' hown' hb' hg'; have z := (hbx3.alloc (.cells #[.int .i64 ((x : Int) - 125), .int .i64 ((y : Int) + 256 * (v : Int)), .int .i64 ((p : Int) + 3)] 38)).grown hg' (fun e => by have := (hO.out.lt _ e).2; omega); have z2 := z.cell 2)
            obtain ⟨A2, c2, rfl⟩ := own_sliceI hown'
            rw [← HIt.out] at hown'
            refine ⟨⟨k + 1, p + 3, A2, c2, rfl, by go_num, hw, HK2, Lib.hid hown', Lib.hid ((HB4.out.alloc HB4.out.size _).trans hb')⟩, ?_⟩
            simp [intOf]; omega
        · have hwh : wh l p = false := decide_eq_false (by rw [e1, HL.out]; exact hw)
          have HE := Lib.hid (show wh l (pl l k) = false by rw [← hK.out.1]; exact hwh)
          generalize ba l p = x at *
          clear e1 e2 hwh hRw hkn
          have h8I : (127 : Int) < (x : Int) := by omega
          go_wp2
          go_ret
          exact ⟨⟨k, A, ca, rfl, (hO.out.alloc _), hK.out.2.1, hK.out.2.2, .inr ⟨HKN.out, HE.out⟩⟩, hB.out.alloc hB.out.size _⟩
    · have hE : k = kn l := by
        rcases Nat.lt_or_ge k (kn l) with h | h
        · have := pl_lt h; have := hK.out.1; have := HL.out; omega
        · have := hK.out.2.1; omega
      have hltI : ¬ (p : Int) < (m : Int) := by omega
      have HE := Lib.hid hE
      clear hE
      go_wp2
      go_ret
      exact ⟨⟨k, A, ca, rfl, hO.out, hK.out.2.1, hK.out.2.2, .inl HE.out⟩, hB.out⟩
end Go.Proofs.Ytaohkakefdhecaa
