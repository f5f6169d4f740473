/-
  A directory's entries, handed on one by one: the program's iterator. Nothing of one statement alone stands here.
-/
import Derived.RangeFuncBox
import Derived.RangeFuncLeaves
import Derived.Shelf.Abstract
import Derived.OwnWalkIn
import Derived.TacticsInMore
import Derived.LoopNIn
import Derived.LoopIn
import Derived.Maps.AppendAt
import Derived.Test.YtbgimehbencdgaaDirCheck
namespace Go.Proofs.Ytbgimehbencdgaa
open Go.RowKit Go.Shelf Crcm Tagm Dirm Go.ChangeShapes

attribute [local go_sem] Oper.semAt_some

/-- the entries of the first so many slots, with their numbers -/
def enT (l : List Int) : Nat → List (Int × Int × ByteArray)
  | 0 => []
  | k + 1 => if rU (slotL l k) = true then enT l k ++ [((k : Int), eI (slotL l k), eS (slotL l k))] else enT l k
/-- all of them -/
def en (l : List Int) : List (Int × Int × ByteArray) := enT l (l.length / 16)
theorem enT_pre (l : List Int) {j k : Nat} (h : j ≤ k) : enT l j <+: enT l k := by
  induction k with
  | zero => obtain rfl : j = 0 := by omega
            exact List.prefix_refl _
  | succ k ih =>
    by_cases e : j = k + 1
    · subst e; exact List.prefix_refl _
    · refine (ih (by omega)).trans ?_
      simp only [enT]
      split
      · exact List.prefix_append _ _
      · exact List.prefix_refl _

/-- two blocks lie as they lay -/
def KB (Bn b : Nat) (W W' : World) : Prop := W'.heap[Bn]? = W.heap[Bn]? ∧ W'.heap[b]? = W.heap[b]?
theorem KB.trans {Bn b : Nat} {A B C : World} (h : KB Bn b A B) (k : KB Bn b B C) : KB Bn b A C := ⟨k.1.trans h.1, k.2.trans h.2⟩
theorem lt_of_same {W W' : World} {b : Nat} (h : W'.heap[b]? = W.heap[b]?) (hb : b < W.heap.size) : b < W'.heap.size := by
  rw [Array.getElem?_eq_getElem hb] at h
  exact (Array.getElem?_eq_some_iff.1 h).1
theorem KB.below {Bn b : Nat} {W wr w' : World} (h : KB Bn b W wr) (h1 : Bn < W.heap.size) (h2 : b < W.heap.size) (hb : Below wr.heap.size wr w') : KB Bn b W w' :=
  ⟨(hb.block Bn (lt_of_same h.1 h1)).trans h.1, (hb.block b (lt_of_same h.2 h2)).trans h.2⟩

set_option maxRecDepth 100000 in
set_option maxHeartbeats 1000000 in
theorem entries_in (n : Nat) (_hn : 1 ≤ n) (y Bn b : Nat) (l : List Int) (a : Option Addr) (m c : Nat) (J Jx : List (Int × Int × ByteArray) → World → Prop) (hl : l.length = m) (hmc : m ≤ c) (c1 : c ≤ 9223372036854775807)
    (B : Nat) (hA : AbidesFrom B J)
    (hY : ∀ pre (x : Int × Int × ByteArray) W, J pre W → pre.length < (en l).length → YieldAt Fence.wide (n - 1) Try.prog y #[.int .i64 x.1, .agg #[.int .i64 x.2.1, .string x.2.2]] W fun e W' =>
      (e = .returned (.bool true) ∧ J (pre ++ [x]) W' ∧ KB Bn b W W') ∨ (e = .returned (.bool false) ∧ Jx (pre ++ [x]) W'))
    (W : World) (hBl : Bn < W.heap.size) (hbl : b < W.heap.size) (hBn : W.cell? ⟨Bn, 0, none⟩ = some (.slice a m c)) (hr : ∀ wr, KB Bn b W wr → Rw wr a l) (h0 : J [] W) :
    CallsIn Fence.wide n Try.prog 38 #[.func (.yield y) #[] #[], .pointer (some ⟨Bn, 0, none⟩)] W fun e W' => (∃ v, e = .returned v) ∧
      ((∃ ys, ys = en l ∧ J ys W') ∨ (∃ pre, pre <+: en l ∧ Jx pre W')) := by
  have HC := Lib.hid (fun w => count_any a c m w (by omega))
  obtain ⟨N, hN⟩ : ∃ N, m / 16 = N := ⟨_, rfl⟩
  rw [hN] at HC
  have HE : Hid (en l = enT l N) := Lib.hid (by unfold en; rw [hl, hN])
  have HL := Lib.hid hl
  have HN := Lib.hid hN
  have hb16 : N * 16 ≤ m := by omega
  have HRl : Hid (∀ wr, KB Bn b W wr → Rw wr a l ∧ wr.cell? ⟨Bn, 0, none⟩ = some (.slice a m c)) := Lib.hid fun wr hb => ⟨hr wr hb, (World.cell?_of_block (a := ⟨Bn, 0, none⟩) hb.1).trans hBn⟩
  have hAd : ∀ pre w w', J pre w → Below w.heap.size w w' → J pre w' := fun pre w w' h hb => hA pre w w' none h (grown_below1 hb none) (fun r e => by cases e)
  clear hl hN hr hA
  refine callsIn_of_wp Try.func38 rfl trivial ?_ rfl
  simp only [Try.ntmps38, List.size_toArray, List.length_cons, List.length_nil, Nat.reduceAdd, Nat.reduceSub, Array.replicate_succ, Array.replicate_zero, List.push_toArray, List.append_toArray, List.nil_append, List.cons_append]
  refine wpIn_wide.2 ?_
  go_wp2_with fail
  go_step3
  go_wp2_with fail
  go_step3
  go_wp2_with fail
  refine (HC.out _).mono ?_
  rintro e w' ⟨rfl, rfl⟩
  go_wp2_with fail
  refine (wpIn_wide (n := n)).1 ?_
  gi_loopw [9] (fun i wr => ∃ k : Nat, k ≤ N ∧ i = .int .i64 k ∧ J (enT l k) wr ∧ KB Bn b W wr) (fun i _ => N - (intOf i).toNat)
  case atStart => exact ⟨0, by omega, rfl, h0, rfl, rfl⟩
  case round =>
    obtain ⟨k, hk, rfl, hJ, hB⟩ := hrel
    by_cases hlt : k < N
    · have hkl : k < l.length / 16 := by have := HL.out; have := HN.out; omega
      have hks : k * 16 + 16 ≤ c := by omega
      have kN : (k : Int) < (N : Int) := by omega
      obtain ⟨hRw, hcl⟩ := HRl.out wr hB
      obtain ⟨b1, o1, rfl, _⟩ := hRw.at (j := 0) (by have := HL.out; omega)
      have HS := Lib.hid (fun w => slot_any b1 o1 m c k w hks c1)
      have HD := Lib.hid (dread_any (slotL l k) (some ⟨b1, o1 + k * 16, none⟩) (c - k * 16) 16 wr (hRw.slot k) (slotL_len hkl) (by omega) (by omega))
      have HStep : Hid (enT l (k + 1) = if rU (slotL l k) = true then enT l k ++ [((k : Int), eI (slotL l k), eS (slotL l k))] else enT l k) := Lib.hid rfl
      have HLen : Hid ((enT l (k + 1)).length ≤ (en l).length) := Lib.hid (by rw [HE.out]; exact (enT_pre l hlt).length_le)
      have HPre : Hid (enT l (k + 1) <+: en l) := Lib.hid (by rw [HE.out]; exact enT_pre l hlt)
      have hE0 : rU (slotL l k) = true → rE (slotL l k) = 0 := fun h => by
        unfold rU at h
        obtain ⟨g1, g2, g3⟩ := of_decide_eq_true h
        exact (r_good g1 g2 g3).1
      obtain ⟨i, hi⟩ : ∃ i, eI (slotL l k) = i := ⟨_, rfl⟩
      obtain ⟨s, hs⟩ : ∃ i, eS (slotL l k) = i := ⟨_, rfl⟩
      obtain ⟨u, hu⟩ : ∃ i, rU (slotL l k) = i := ⟨_, rfl⟩
      obtain ⟨e0, he⟩ : ∃ i, rE (slotL l k) = i := ⟨_, rfl⟩
      rw [hi, hs, hu, he] at HD
      rw [hi, hs, hu] at HStep
      rw [hu, he] at hE0
      unfold rv at HD
      clear hi hs hu he hRw hkl
      have HJ := Lib.hid hJ
      have HB := Lib.hid hB
      clear hJ hB
      cases u
      · have HS2 : Hid (enT l (k + 1) = enT l k) := Lib.hid (by rw [HStep.out]; rfl)
        clear hE0
        by_cases z : e0 = 0
        · subst z
          gi_wp2_with (first
            | (refine ⟨trivial, ?_⟩; gi_at_call 31; refine (callsIn_wide.2 (HS.out _)).mono ?_; rintro e w' ⟨rfl, rfl⟩)
            | (refine ⟨trivial, ?_⟩; gi_at_call 12; refine (callsIn_wide.2 HD.out).mono ?_; rintro e w1 ⟨rfl, hb1⟩))
          have hb2 : Below wr.heap.size wr (w1.alloc (.cells #[.int .i64 i, .string s] 23)) := hb1.alloc hb1.size _
          go_roundw
          case rel => exact ⟨k + 1, by omega, by go_num, by rw [HS2.out]; exact hAd _ _ _ HJ.out hb2, HB.out.below hBl hbl hb2⟩
          case measure => simp [intOf]; omega
        · have tz : (e0 != 0) = true := by simpa using z
          clear z
          gi_wp2_with (first
            | (refine ⟨trivial, ?_⟩; gi_at_call 31; refine (callsIn_wide.2 (HS.out _)).mono ?_; rintro e w' ⟨rfl, rfl⟩)
            | (refine ⟨trivial, ?_⟩; gi_at_call 12; refine (callsIn_wide.2 HD.out).mono ?_; rintro e w1 ⟨rfl, hb1⟩))
          have hb2 : Below wr.heap.size wr (w1.alloc (.cells #[.int .i64 i, .string s] 23)) := hb1.alloc hb1.size _
          go_roundw
          case rel => exact ⟨k + 1, by omega, by go_num, by rw [HS2.out]; exact hAd _ _ _ HJ.out hb2, HB.out.below hBl hbl hb2⟩
          case measure => simp [intOf]; omega
      · have HS2 : Hid (enT l (k + 1) = enT l k ++ [((k : Int), i, s)]) := Lib.hid (by rw [HStep.out]; rfl)
        have := hE0 rfl
        subst this
        clear hE0
        gi_wp2_with (first
          | (refine ⟨trivial, ?_⟩; gi_at_call 31; refine (callsIn_wide.2 (HS.out _)).mono ?_; rintro e w' ⟨rfl, rfl⟩)
          | (refine ⟨trivial, ?_⟩; gi_at_call 12; refine (callsIn_wide.2 HD.out).mono ?_; rintro e w1 ⟨rfl, hb1⟩; have hb2 : Below wr.heap.size wr (w1.alloc (.cells #[.int .i64 i, .string s] 23)) := hb1.alloc hb1.size _; obtain ⟨fn, tmps, assign, body, hy, hR⟩ := hY (enT l k) ((k : Int), i, s) (w1.alloc (.cells #[.int .i64 i, .string s] 23)) (hAd _ _ _ HJ.out hb2) (by have h1 := HLen.out; rw [HS2.out] at h1; simp at h1; omega)))
        refine hR.mono ?_
        rintro e W3 (⟨rfl, hJ3, hk3⟩ | ⟨rfl, hJx3⟩)
        · gi_wp2
          go_roundw
          case rel => exact ⟨k + 1, by omega, by go_num, by rw [HS2.out]; exact hJ3, (HB.out.below hBl hbl hb2).trans hk3⟩
          case measure => simp [intOf]; omega
        · gi_wp2
          rw [Exit.noGoto_ret]
          refine bodyPost_ret (results_none rfl _ _ _) rfl ?_
          exact ⟨⟨_, rfl⟩, .inr ⟨enT l k ++ [((k : Int), i, s)], by rw [← HS2.out]; exact HPre.out, hJx3⟩⟩
    · have hkm : k = N := by omega
      have E : Hid (enT l k = en l) := Lib.hid (by rw [HE.out, hkm])
      subst hkm
      gi_wp2
      rw [Exit.noGoto_normal]
      go_end0
      exact ⟨⟨_, rfl⟩, .inl ⟨_, E.out, hJ⟩⟩

/-- what the iterator's maker gives -/
theorem entriesOf_in (n : Nat) (a : Option Addr) (m c : Nat) (w : World) :
    CallsIn Fence.wide n Try.prog 36 #[.slice a m c] w fun e w' => e = .returned (.func (.func 38) #[] #[.pointer (some ⟨w.heap.size, 0, none⟩)]) ∧ w' = w.alloc (.cells #[.slice a m c] 24) := by
  refine callsIn_of_wp Try.func36 rfl trivial ?_ rfl
  simp only [Try.ntmps36, List.size_toArray, List.length_cons, List.length_nil, Nat.reduceAdd, Nat.reduceSub, Array.replicate_succ, Array.replicate_zero, List.push_toArray, List.append_toArray, List.nil_append, List.cons_append]
  gi_wp2
  go_ret
  exact ⟨rfl, rfl⟩
theorem Rw.kb {W wr : World} {l : List Int} {a : Option Addr} {b : Nat} (h : Rw W a l) (hb : l = [] ∨ ∃ off, a = some ⟨b, off, none⟩) (hk : wr.heap[b]? = W.heap[b]?) : Rw wr a l := by
  obtain ⟨h1, h2, h3⟩ := h
  refine ⟨h1, h2, ?_⟩
  rcases h3 with h3 | ⟨b', o', e, h3⟩
  · exact .inl h3
  · rcases hb with hb | ⟨off, rfl⟩
    · exact .inl hb
    · injection e with e; injection e with e1 e2; subst e1 e2
      exact .inr ⟨b, off, rfl, fun i hi => (World.cell?_of_block (a := ⟨b, off + i, none⟩) hk).trans (h3 i hi)⟩
theorem entries_stops (n : Nat) (hn : 1 ≤ n) (Bn b : Nat) (l : List Int) (a : Option Addr) (m c : Nat) (hl : l.length = m) (hmc : m ≤ c) (c1 : c ≤ 9223372036854775807) (w : World) (hBn : Bn < w.heap.size) (hbl : b < w.heap.size)
    (hc : w.cell? ⟨Bn, 0, none⟩ = some (.slice a m c)) (hr : Rw w a l) (hb : l = [] ∨ ∃ off, a = some ⟨b, off, none⟩) :
    SeqStopsK Fence.wide n Try.prog 38 #[.pointer (some ⟨Bn, 0, none⟩)] (fun x : Int × Int × ByteArray => #[Value.int .i64 x.1, Value.agg #[.int .i64 x.2.1, .string x.2.2]]) (KB Bn b) (fun ys => ys = en l) (fun pre => pre <+: en l) (en l).length w := fun y J Jx W hW hJ _ hY h0 =>
  entries_in n hn y Bn b l a m c J Jx hl hmc c1 _ hJ hY W (Nat.lt_of_lt_of_le hBn hW.size) (Nat.lt_of_lt_of_le hbl hW.size) ((hW.cell (p := ⟨Bn, 0, none⟩) hBn).trans hc) (fun _ hk => (hr.below hW).kb hb hk.2) h0

end Go.Proofs.Ytbgimehbencdgaa
