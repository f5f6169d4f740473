/-
  A pointer page's pointers that are not 0, handed on one by one: the program's iterator.
-/
import Derived.RangeFuncBox
import Derived.RangeFuncLeaves
import Derived.Shelf.Abstract
import Derived.OwnWalkIn
import Derived.TacticsInMore
import Derived.LoopNIn
import Derived.LoopIn
import Derived.Maps.AppendAt
import Derived.Test.YtladgfonkolpmaaInoRefP
namespace Go.Proofs.Ytladgfonkolpmaa
open Go.RowKit Go.Shelf Crcm Tagm Inom Go.ChangeShapes

attribute [local go_sem] Oper.semAt_some

/-- the first so many pointers that are not 0, with their numbers -/
def plT (l : List Int) : Nat → List (Int × Int)
  | 0 => []
  | k + 1 => if pv l k = 0 then plT l k else plT l k ++ [((k : Int), pv l k)]
/-- all of them -/
def pl (l : List Int) : List (Int × Int) := if Sz l.length then plT l (l.length / 2) else []
theorem plT_pre (l : List Int) {j k : Nat} (h : j ≤ k) : plT l j <+: plT l k := by
  induction k with
  | zero => obtain rfl : j = 0 := by omega
            exact List.prefix_refl _
  | succ k ih =>
    by_cases e : j = k + 1
    · subst e; exact List.prefix_refl _
    · refine (ih (by omega)).trans ?_
      simp only [plT]
      split
      · exact List.prefix_refl _
      · exact List.prefix_append _ _
theorem plT_len (l : List Int) (k : Nat) : (plT l k).length ≤ k := by
  induction k with
  | zero => exact Nat.le_refl _
  | succ k ih =>
    simp only [plT]
    split
    · omega
    · simp; omega

/-- two blocks lie as they lay -/
def KB (Bn b : Nat) (W W' : World) : Prop := W'.heap[Bn]? = W.heap[Bn]? ∧ W'.heap[b]? = W.heap[b]?
theorem KB.trans {Bn b : Nat} {A B C : World} (h : KB Bn b A B) (k : KB Bn b B C) : KB Bn b A C := ⟨k.1.trans h.1, k.2.trans h.2⟩

set_option maxRecDepth 100000 in
set_option maxHeartbeats 1000000 in
theorem pointers_in (n : Nat) (_hn : 1 ≤ n) (y Bn : Nat) (l : List Int) (b off m c : Nat) (J Jx : List (Int × Int) → World → Prop) (hs : Sz m) (hl : l.length = m) (hmc : m ≤ c)
    (hY : ∀ pre (x : Int × Int) W, J pre W → pre.length < (pl l).length → YieldAt Fence.wide (n - 1) Try.prog y #[.int .i64 x.1, .int .i64 x.2] W fun e W' =>
      (e = .returned (.bool true) ∧ J (pre ++ [x]) W' ∧ KB Bn b W W') ∨ (e = .returned (.bool false) ∧ Jx (pre ++ [x]) W'))
    (W : World) (hBn : W.cell? ⟨Bn, 0, none⟩ = some (.slice (some ⟨b, off, none⟩) m c)) (hr : Rw W (some ⟨b, off, none⟩) l) (h0 : J [] W) :
    CallsIn Fence.wide n Try.prog 48 #[.func (.yield y) #[] #[], .pointer (some ⟨Bn, 0, none⟩)] W fun e W' => (∃ v, e = .returned v) ∧
      ((∃ ys, ys = pl l ∧ J ys W') ∨ (∃ pre, pre <+: pl l ∧ Jx pre W')) := by
  have hb : 64 ≤ m ∧ m ≤ 512 := by unfold Sz at hs; omega
  have HPl : Hid (pl l = plT l (m / 2)) := Lib.hid (by unfold pl; rw [hl, if_pos hs])
  have HP := Lib.hid (fun w => ptrs_yes m w hs)
  have HL := Lib.hid hl
  have HRl : Hid (∀ wr, KB Bn b W wr → Rw wr (some ⟨b, off, none⟩) l ∧ wr.cell? ⟨Bn, 0, none⟩ = some (.slice (some ⟨b, off, none⟩) m c)) := Lib.hid fun wr hb => ⟨by
    obtain ⟨h1, h2, h3⟩ := hr
    refine ⟨h1, h2, ?_⟩
    rcases h3 with h3 | ⟨b', o', e, h3⟩
    · exact .inl h3
    · injection e with e; injection e with e1 e2; subst e1 e2
      exact .inr ⟨b, off, rfl, fun i hi => (World.cell?_of_block (a := ⟨b, off + i, none⟩) hb.2).trans (h3 i hi)⟩, (World.cell?_of_block (a := ⟨Bn, 0, none⟩) hb.1).trans hBn⟩
  have HQ := Lib.hid (fun (k : Nat) w (hk : k * 2 + 2 ≤ m) => ipointer_any b off m c k k w rfl (by omega) hmc (by omega))
  clear hs hl hr
  refine callsIn_of_wp Try.func48 rfl trivial ?_ rfl
  simp only [Try.ntmps48, List.size_toArray, List.length_cons, List.length_nil, Nat.reduceAdd, Nat.reduceSub, Array.replicate_succ, Array.replicate_zero, List.push_toArray, List.append_toArray, List.nil_append, List.cons_append]
  gi_wp2_with (refine ⟨trivial, ?_⟩; gi_at_call 40; refine (callsIn_wide.2 (HP.out _)).mono ?_; rintro e w' ⟨rfl, rfl⟩)
  gi_loopw [8] (fun i wr => ∃ k : Nat, k ≤ m / 2 ∧ i = .int .i64 k ∧ J (plT l k) wr ∧ KB Bn b W wr) (fun i _ => m / 2 - (intOf i).toNat)
  case atStart => exact ⟨0, by omega, rfl, h0, rfl, rfl⟩
  case round =>
    obtain ⟨k, hk, rfl, hJ, hB⟩ := hrel
    by_cases hlt : k < m / 2
    · have hk2 : k * 2 + 2 ≤ m := by omega
      have hlti : (k : Int) < (m : Int) / 2 := by omega
      obtain ⟨hRw, hcl⟩ := HRl.out wr hB
      have HNu := Lib.hid (inumber_any (some ⟨b, off + k * 2, none⟩) 2 (c - k * 2) ((l.drop (k * 2)).take 2) wr ((hRw.drop (k * 2) (a' := some ⟨b, off + k * 2, none⟩) (fun b' off' e _ => by injection e with e; injection e with e1 e2; subst e1 e2; rfl)).take 2) (by have := HL.out; rw [List.length_take, List.length_drop]; omega) (by omega))
      have HJ := Lib.hid hJ
      have HB := Lib.hid hB
      have HStep : Hid (plT l (k + 1) = if nu ((l.drop (k * 2)).take 2) = 0 then plT l k else plT l k ++ [((k : Int), nu ((l.drop (k * 2)).take 2))]) := Lib.hid rfl
      have HLen : Hid ((plT l (k + 1)).length ≤ (pl l).length) := Lib.hid (by rw [HPl.out]; exact (plT_pre l hlt).length_le)
      have HPre : Hid (plT l (k + 1) <+: pl l) := Lib.hid (by rw [HPl.out]; exact plT_pre l hlt)
      generalize nu ((l.drop (k * 2)).take 2) = x at HNu HStep
      clear hJ hB hRw
      by_cases hx : x = 0
      · subst hx
        have HS2 : Hid (plT l (k + 1) = plT l k) := Lib.hid (by rw [HStep.out, if_pos rfl])
        gi_wp2_with (first
          | (refine ⟨trivial, ?_⟩; gi_at_call 42; refine (callsIn_wide.2 (HQ.out k _ hk2)).mono ?_; rintro e w' ⟨rfl, rfl⟩)
          | (refine ⟨trivial, ?_⟩; gi_at_call 41; refine (callsIn_wide.2 HNu.out).mono ?_; rintro e w' ⟨rfl, rfl⟩))
        refine ⟨fun _ h => (by cases h), ?_⟩
        gi_wp2
        go_roundw
        case rel => exact ⟨k + 1, by omega, by go_num, by rw [HS2.out]; exact HJ.out, HB.out⟩
        case measure => simp [intOf]; omega
      · have HS2 : Hid (plT l (k + 1) = plT l k ++ [((k : Int), x)]) := Lib.hid (by rw [HStep.out, if_neg hx])
        have hx1 : (x == 0) = false := by simpa using hx
        have hx2 : (x != 0) = true := by simpa using hx
        clear hx
        gi_wp2_with (first
          | (refine ⟨trivial, ?_⟩; gi_at_call 42; refine (callsIn_wide.2 (HQ.out k _ hk2)).mono ?_; rintro e w' ⟨rfl, rfl⟩)
          | (refine ⟨trivial, ?_⟩; gi_at_call 41; refine (callsIn_wide.2 HNu.out).mono ?_; rintro e w' ⟨rfl, rfl⟩; obtain ⟨fn, tmps, assign, body, hy, hR⟩ := hY (plT l k) ((k : Int), x) _ HJ.out (by have h1 := HLen.out; rw [HS2.out] at h1; simp at h1; omega)))
        refine hR.mono ?_
        rintro e W3 (⟨rfl, hJ3, hk3⟩ | ⟨rfl, hJx3⟩)
        · gi_wp2
          go_roundw
          case rel => exact ⟨k + 1, by omega, by go_num, by rw [HS2.out]; exact hJ3, HB.out.trans hk3⟩
          case measure => simp [intOf]; omega
        · gi_wp2
          refine bodyPost_ret (results_none rfl _ _ _) rfl ?_
          exact ⟨⟨_, rfl⟩, .inr ⟨plT l k ++ [((k : Int), x)], by rw [← HS2.out]; exact HPre.out, hJx3⟩⟩
    · have hkm : k = m / 2 := by omega
      have E : Hid (plT l k = pl l) := Lib.hid (by rw [HPl.out, hkm])
      have hlti : (m : Int) / 2 ≤ (k : Int) := by omega
      clear hkm
      gi_wp2
      go_end0
      exact ⟨⟨_, rfl⟩, .inl ⟨_, E.out, hJ⟩⟩

end Go.Proofs.Ytladgfonkolpmaa
