/-
  Items of squeezed bytes, handed on one by one: the program's iterator. Nothing of one statement alone stands here.
-/
import Derived.RangeFuncBox
import Derived.RangeFuncLeaves
import Derived.Shelf.Abstract
import Derived.OwnWalkIn
import Derived.TacticsInMore
import Derived.LoopNIn
import Derived.LoopIn
import Derived.Stop.RegionWithIn
import Derived.Maps.AppendAt
import Derived.Test.YtaohkakefdhecaaSqItem
import Derived.Test.YtaohkakefdhecaaSqSeq
namespace Sqm
theorem ba_drop (l : List Int) (p j : Nat) : ba (l.drop p) j = ba l (p + j) := by
  unfold ba; rw [List.getD_eq_getElem?_getD, List.getD_eq_getElem?_getD, List.getElem?_drop]
theorem sz_drop (l : List Int) (p : Nat) : sz (l.drop p) 0 = sz l p := by unfold sz; rw [ba_drop]; rfl
theorem cnt_drop (l : List Int) (p : Nat) : cnt (l.drop p) 0 = cnt l p := by unfold cnt; rw [ba_drop]; rfl
theorem far_drop (l : List Int) (p : Nat) : far (l.drop p) 0 = far l p := by unfold far; rw [ba_drop, ba_drop, ba_drop]; rfl
theorem wh_drop {l : List Int} {p : Nat} (h : p < l.length) : wh (l.drop p) 0 = wh l p := by
  unfold wh; rw [sz_drop, List.length_drop]; congr 1; apply propext; omega
end Sqm
namespace Go.Proofs.Ytaohkakefdhecaa
open Go.RowKit Go.Shelf Crcm Sqm Go.ChangeShapes

attribute [local go_sem] Oper.semAt_some

/-- the item at a place, as it is handed on -/
def iv (b off c : Nat) (l : List Int) (p : Nat) : Value :=
  if wh l p = true then (if ba l p < 128 then itv (cnt l p) 0 (.slice (some ⟨b, off + p + 1, none⟩) (cnt l p) (c - p - 1)) else itv (cnt l p) (far l p) (.slice none 0 0)) else itv 0 0 (.slice none 0 0)
theorem iv_form (b off c : Nat) (l : List Int) (p : Nat) : ∃ x y A i j, iv b off c l p = itv x y (.slice A i j) := by
  unfold iv; split
  · split <;> exact ⟨_, _, _, _, _, rfl⟩
  · exact ⟨_, _, _, _, _, rfl⟩
theorem first_at (b off m c p : Nat) (l : List Int) (w : World) (hr : Rw w (some ⟨b, off + p, none⟩) (l.drop p)) (hl : l.length = m) (hp : p < m) (hmc : m ≤ c) (hc : c ≤ 9223372036854775807) :
    Calls Try.prog 32 #[.slice (some ⟨b, off + p, none⟩) (m - p) (c - p)] w fun e w' => e = .returned (.tuple #[iv b off c l p, .int .i64 (sz l p)]) ∧ Below w.heap.size w w' := by
  have hwd := wh_drop (l := l) (p := p) (by omega)
  have hsd := sz_drop l p
  have hcd := cnt_drop l p
  have hfd := far_drop l p
  have hbd := ba_drop l p 0
  rw [Nat.add_zero] at hbd
  have hld : (l.drop p).length = m - p := by rw [List.length_drop, hl]
  rw [← hsd]
  unfold iv
  by_cases h1 : wh l p = true
  · rw [if_pos h1]
    by_cases h2 : ba l p < 128
    · rw [if_pos h2, ← hcd]
      have := first_run b (off + p) (m - p) (c - p) (l.drop p) w hr hld (by omega) (by omega) (by omega) (by omega) (by rw [hwd]; exact h1)
      exact this
    · rw [if_neg h2, ← hcd, ← hfd]
      exact first_copy b (off + p) (m - p) (c - p) (l.drop p) w hr hld (by omega) (by omega) (by omega) (by omega) (by rw [hwd]; exact h1)
  · rw [if_neg h1]
    have h1' : wh (l.drop p) 0 = false := by rw [hwd]; simpa using h1
    by_cases h2 : ba l p < 128
    · exact first_short b (off + p) (m - p) (c - p) (l.drop p) w hr hld (by omega) (by omega) (by omega) (by omega) h1'
    · exact first_cut b (off + p) (m - p) (c - p) (l.drop p) w hr hld (by omega) (by omega) (by omega) (by omega) h1'

theorem grown_below1 {w w' : World} (h : Below w.heap.size w w') (r : Option Nat) : w.grownBy w' r := ⟨h.os, h.tape, h.output, h.size, fun k hk _ => h.block k hk⟩
/-- how long what lies in a cell is -/
def slen : Option Value → Nat
  | some (.slice _ n _) => n
  | _ => 0
/-- two blocks lie as they lay -/
def Kb2 (p q : Nat) (W W' : World) : Prop := W'.heap[p]? = W.heap[p]? ∧ W'.heap[q]? = W.heap[q]? ∧ W.heap.size ≤ W'.heap.size
theorem Kb2.trans {p q : Nat} {A B C : World} (h : Kb2 p q A B) (k : Kb2 p q B C) : Kb2 p q A C := ⟨k.1.trans h.1, k.2.1.trans h.2.1, Nat.le_trans h.2.2 k.2.2⟩
theorem Rw.kb {W wr : World} {l : List Int} {a : Option Addr} {b : Nat} (h : Rw W a l) (hb : l = [] ∨ ∃ off, a = some ⟨b, off, none⟩) (hk : wr.heap[b]? = W.heap[b]?) : Rw wr a l := by
  obtain ⟨h1, h2, h3⟩ := h
  refine ⟨h1, h2, ?_⟩
  rcases h3 with h3 | ⟨b', o', e, h3⟩
  · exact .inl h3
  · rcases hb with hb | ⟨off, rfl⟩
    · exact .inl hb
    · injection e with e; injection e with e1 e2; subst e1 e2
      exact .inr ⟨b, off, rfl, fun i hi => (World.cell?_of_block (a := ⟨b, off + i, none⟩) hk).trans (h3 i hi)⟩

set_option maxRecDepth 100000 in
set_option maxHeartbeats 2000000 in
theorem items_in (n : Nat) (_hn : 1 ≤ n) (Bn b off m c : Nat) (a : Option Addr) (l : List Int) (hl : l.length = m) (hmc : m ≤ c) (hc : c ≤ 9223372036854775807) (ha : l = [] ∨ a = some ⟨b, off, none⟩) (w : World)
    (hbk : Blk w Bn 22 #[.slice a m c]) (hr : Rw w a l) (hbl : b < w.heap.size) (hne : b ≠ Bn) :
    SeqAt Fence.wide n Try.prog 31 #[.pointer (some ⟨Bn, 0, none⟩)] (fun k => #[iv b off c l (pl l k), .bool (wh l (pl l k))]) (fun _ _ r => r = Bn) 0 (fun _ => Kb2 Bn b) (kn l) w := by
  intro y J Jx W hW hJ _ hY h0
  have hbkW := hbk.below hW hbk.lt
  have hrW := hr.below hW
  have hblW : b < W.heap.size := Nat.lt_of_lt_of_le hbl hW.size
  clear hbk hr hW hbl w
  have HJ := Lib.hid hJ
  have HL := Lib.hid hl
  have HA := Lib.hid ha
  have HR : Hid (∀ wr : World, wr.heap[b]? = W.heap[b]? → Rw wr a l) := Lib.hid fun wr hk => hrW.kb (by rcases ha with h | h; exact .inl h; exact .inr ⟨off, h⟩) hk
  have HY := Lib.hid hY
  clear hJ hY hrW ha
  refine callsIn_of_wp Try.func31 rfl trivial ?_ rfl
  simp only [Try.ntmps31, List.size_toArray, List.length_cons, List.length_nil, Nat.reduceAdd, Nat.reduceSub, Array.replicate_succ, Array.replicate_zero, List.push_toArray, List.append_toArray, List.nil_append, List.cons_append]
  gi_wp2_with fail
  gi_loopw [4] (fun s4 wr => ∃ k p : Nat, ∃ A, s4 = s4 ∧ p ≤ m ∧ Hid (p = pl l k) ∧ Hid (k ≤ kn l) ∧ Hid (p < m → A = some ⟨b, off + p, none⟩) ∧ Hid (J k wr) ∧ Hid (Blk wr Bn 22 #[.slice A (m - p) (c - p)]) ∧ Hid (wr.heap[b]? = W.heap[b]?) ∧ Hid (W.heap.size ≤ wr.heap.size)) (fun _ wr => slen (wr.cell? ⟨Bn, 0, none⟩))
  case atStart => exact ⟨0, 0, a, rfl, by omega, Lib.hid rfl, Lib.hid (Nat.zero_le _), Lib.hid (fun h => by rcases HA.out with h1 | h1; (have := HL.out; rw [h1] at this; simp at this; omega); exact h1), Lib.hid h0, Lib.hid hbkW, Lib.hid rfl, Lib.hid (Nat.le_refl _)⟩
  case round =>
    obtain ⟨k, p, A, -, hp, hpk, hkn, hA, hJk, hB, hb, hsz⟩ := hrel
    have hcell := hB.out.cell 0
    by_cases hlt : p < m
    · have hAe := hA.out hlt
      subst hAe
      have hF := first_at b off m c p l wr ((HR.out wr hb.out).drop p (fun b' o' e _ => by rcases HA.out with h1 | h1; (have := HL.out; rw [h1] at this; simp at this; omega); rw [h1] at e; injection e with e; injection e with e1 e2; subst e1 e2; rfl)) hl hlt hmc hc
      obtain ⟨x, z, Av, iv1, iv2, hxv⟩ := iv_form b off c l p
      have HI := Lib.hid hxv
      rw [hxv] at hF
      unfold itv at hF
      have HF := Lib.hid hF
      have hkl : k < kn l := kn_lt hkn.out (by rw [← hpk.out, hl]; exact hlt)
      have HK := Lib.hid hkl
      obtain ⟨S, hS⟩ : ∃ S, sz l p = S := ⟨_, rfl⟩
      obtain ⟨M, hM⟩ : ∃ M, m - p = M := ⟨_, rfl⟩
      obtain ⟨C, hC⟩ : ∃ C, c - p = C := ⟨_, rfl⟩
      rw [hS] at HF
      rw [hM, hC] at HF hB hcell
      have hMC : M ≤ C := by omega
      have hM1 : 1 ≤ M := by omega
      have HSp := Lib.hid (sz_pos l p)
      rw [hS] at HSp
      by_cases hw : wh l p = true
      · have hSM : S ≤ M := by have := of_decide_eq_true hw; rw [hS, hl] at this; omega
        have hnS : ¬ (M : Int) < (S : Int) := by omega
        have hS2 := HSp.out
        have HPn : Hid (pl l (k + 1) = p + S) := Lib.hid (by have := pl_wh (l := l) (k := k) (by rw [← hpk.out]; exact hw); rw [this, ← hpk.out, hS])
        have HYk := Lib.hid (fun (w1 : World) (hb1 : Below wr.heap.size wr w1) => HY.out k (w1.alloc (.cells #[.int .i64 x, .int .i64 z, .slice Av iv1 iv2] 43)) HK.out (HJ.out _ _ _ none hJk.out (grown_below1 (hb1.alloc hb1.size _) none) (fun r e => by cases e)) (by have := hb1.size; have := hsz.out; simp; omega))
        rw [← hpk.out, HI.out, hw] at HYk
        unfold itv at HYk
        clear hF hxv hkl hlt hA hl
        gi_wp2_with (refine ⟨trivial, ?_⟩; gi_at_call 32; refine (callsIn_wide.2 HF.out).mono ?_; rintro e w1 ⟨rfl, hb1⟩; have hB1 := (hB.out.below hb1 hB.out.lt).alloc (.cells #[.int .i64 x, .int .i64 z, .slice Av iv1 iv2] 43); have hc1 := hB1.cell 0; obtain ⟨fn, tmps, assign, body, hy, hR⟩ := HYk.out w1 hb1)
        refine hR.mono ?_
        rintro e W3 (⟨rfl, hJ3, hk3⟩ | ⟨rfl, hJx3, -⟩)
        · have HJ3 := Lib.hid hJ3
          have hB3 : Blk W3 Bn 22 #[.slice (some ⟨b, off + p, none⟩) M C] := hk3.1.trans hB1
          have hb3 : W3.heap[b]? = W.heap[b]? := hk3.2.1.trans (((Below.heap_alloc _ _ _ (by
            have h1 := hb.out; rw [Array.getElem?_eq_getElem hblW] at h1
            have := (Array.getElem?_eq_some_iff.1 h1).1
            exact Nat.lt_of_lt_of_le this hb1.size)).trans (hb1.block b (by
            have h1 := hb.out; rw [Array.getElem?_eq_getElem hblW] at h1
            exact (Array.getElem?_eq_some_iff.1 h1).1))).trans hb.out)
          have HB3 := Lib.hid hB3
          have HSz3 : Hid (W.heap.size ≤ W3.heap.size) := Lib.hid (by have h1 := hk3.2.2; have h2 := hb1.size; have h3 := hsz.out; simp at h1; omega)
          have Hb3 := Lib.hid hb3
          have hc3 := hB3.cell 0
          have hf3 := hB3.frozen 0
          clear hJ3 hb3 hB3 hk3 hc1 hB1 hcell hy hR
          gi_wp2
          refine ⟨⟨k + 1, p + S, (if C = S then some ⟨b, off + p, none⟩ else some ⟨b, off + p + S, none⟩), trivial, by omega, Lib.hid HPn.out.symm, Lib.hid HK.out, Lib.hid (fun h => ?_), Lib.hid (HJ.out _ _ _ (some Bn) HJ3.out (grownBy_setCell' W3 Bn _) (fun r e => by cases e; exact .inl rfl)), Lib.hid ?_, Lib.hid ((Below.heap_setCell W3 _ _ b hne).trans Hb3.out), Lib.hid ?_⟩, ?_⟩
          · rw [if_neg (by omega), Nat.add_assoc]
          · have := HB3.out.put 0 (.slice (if C = S then some ⟨b, off + p, none⟩ else some ⟨b, off + p + S, none⟩) (M - S) (C - S))
            rw [show m - (p + S) = M - S by omega, show c - (p + S) = C - S by omega]
            simpa using this
          · simp [World.setCell]
            exact HSz3.out
          · have h1 := (HB3.out.put 0 (.slice (if C = S then some ⟨b, off + p, none⟩ else some ⟨b, off + p + S, none⟩) (M - S) (C - S))).cell 0
            have h2 := hB.out.cell 0
            rw [h1, h2]
            show M - S < M
            omega
        · have HJx := Lib.hid hJx3
          clear hJx3
          gi_wp2
          refine bodyPost_ret (results_none rfl _ _ _) rfl ?_
          exact ⟨⟨_, rfl⟩, .inr ⟨k + 1, HK.out, HJx.out⟩⟩
      · have hw' : wh l p = false := by simpa using hw
        have hnS : (M : Int) < (S : Int) := by have := of_decide_eq_false hw'; rw [hS, hl] at this; omega
        have hz : iv b off c l p = itv 0 0 (.slice none 0 0) := by unfold iv; rw [if_neg hw]
        rw [hz] at hxv
        unfold itv at hxv
        simp only [Value.agg.injEq, Array.mk.injEq, List.cons.injEq, Value.int.injEq, Value.slice.injEq, and_true, true_and] at hxv
        obtain ⟨rfl, rfl, rfl, rfl, rfl⟩ := hxv
        have HLast : Hid (k + 1 = kn l) := Lib.hid (wh_last HK.out (by rw [← hpk.out]; exact hw'))
        have HYk := Lib.hid (fun (w1 : World) (hb1 : Below wr.heap.size wr w1) => HY.out k (w1.alloc (.cells #[.int .i64 0, .int .i64 0, .slice none 0 0] 43)) HK.out (HJ.out _ _ _ none hJk.out (grown_below1 (hb1.alloc hb1.size _) none) (fun r e => by cases e)) (by have := hb1.size; have := hsz.out; simp; omega))
        rw [← hpk.out, HI.out, hw'] at HYk
        unfold itv at HYk
        clear hF hkl hlt hA hl
        gi_wp2_with (refine ⟨trivial, ?_⟩; gi_at_call 32; refine (callsIn_wide.2 HF.out).mono ?_; rintro e w1 ⟨rfl, hb1⟩; have hB1 := (hB.out.below hb1 hB.out.lt).alloc (.cells #[.int .i64 0, .int .i64 0, .slice none 0 0] 43); have hc1 := hB1.cell 0; obtain ⟨fn, tmps, assign, body, hy, hR⟩ := HYk.out w1 hb1)
        refine hR.mono ?_
        rintro e W3 (⟨rfl, hJ3, -⟩ | ⟨rfl, hJx3, -⟩)
        · have HJ3 := Lib.hid hJ3
          clear hJ3
          gi_wp2
          refine bodyPost_ret (results_none rfl _ _ _) rfl ?_
          exact ⟨⟨_, rfl⟩, .inl (by rw [← HLast.out]; exact HJ3.out)⟩
        · have HJx := Lib.hid hJx3
          clear hJx3
          gi_wp2
          refine bodyPost_ret (results_none rfl _ _ _) rfl ?_
          exact ⟨⟨_, rfl⟩, .inr ⟨k + 1, HK.out, HJx.out⟩⟩
    · have hpm : p = m := by omega
      have HJ2 : Hid (J (kn l) wr) := Lib.hid (by
        have h1 : ¬ k < kn l := fun h => by have := pl_lt h; rw [← hpk.out, hl] at this; omega
        have h2 := hkn.out
        rw [show kn l = k by omega]; exact hJk.out)
      subst hpm
      rw [Nat.sub_self] at hcell
      clear hJk hlt
      gi_wp2
      go_end0
      exact ⟨⟨_, rfl⟩, .inl HJ2.out⟩

/-- what the iterator's maker gives -/
theorem itemsOf_in (n : Nat) (a : Option Addr) (m c : Nat) (w : World) :
    CallsIn Fence.wide n Try.prog 23 #[.slice a m c] w fun e w' => e = .returned (.func (.func 31) #[] #[.pointer (some ⟨w.heap.size, 0, none⟩)]) ∧ w' = w.alloc (.cells #[.slice a m c] 22) := by
  refine callsIn_of_wp Try.func23 rfl trivial ?_ rfl
  simp only [Try.ntmps23, List.size_toArray, List.length_cons, List.length_nil, Nat.reduceAdd, Nat.reduceSub, Array.replicate_succ, Array.replicate_zero, List.push_toArray, List.append_toArray, List.nil_append, List.cons_append]
  gi_wp2
  go_ret
  exact ⟨rfl, rfl⟩
end Go.Proofs.Ytaohkakefdhecaa
