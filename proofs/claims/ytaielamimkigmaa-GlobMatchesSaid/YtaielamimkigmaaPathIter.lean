/-
  A text's parts, handed on one by one: the program's iterator. Nothing of one statement alone stands here.
-/
import Derived.RangeFuncBox
import Derived.RangeFuncLeaves
import Derived.Shelf.Abstract
import Derived.OwnWalkIn
import Derived.TacticsInMore
import Derived.LoopNIn
import Derived.LoopIn
import Derived.Maps.AppendAt
import Derived.Test.YtaielamimkigmaaStrRefQ
namespace Go.Proofs.Ytaielamimkigmaa
open Go.RowKit Go.Shelf Go.ChangeShapes

attribute [local go_sem] Oper.semAt_some

/-- what a cut gives -/
def cK (s : ByteArray) : Bool := decide (0 ≤ Lib.indexByte s.data.toList 47)
def cA (s : ByteArray) : ByteArray := if 0 ≤ Lib.indexByte s.data.toList 47 then s.extract 0 (Lib.indexByte s.data.toList 47).toNat else s
def cB (s : ByteArray) : ByteArray := if 0 ≤ Lib.indexByte s.data.toList 47 then s.extract ((Lib.indexByte s.data.toList 47).toNat + 1) s.size else ⟨#[]⟩
theorem cut_is {s a b : ByteArray} {k : Bool} (h : Cut47 s a b k) : a = cA s ∧ b = cB s ∧ k = cK s := by
  unfold cA cB cK
  rcases h with ⟨rfl, hi, rfl, rfl⟩ | ⟨rfl, i, hi, rfl, rfl⟩
  · rw [if_neg (by omega), if_neg (by omega), decide_eq_false (by omega)]
    exact ⟨rfl, rfl, rfl⟩
  · rw [hi, if_pos (by omega), if_pos (by omega), decide_eq_true (by omega), Int.toNat_natCast]
    exact ⟨rfl, rfl, rfl⟩
/-- how much is left to be cut -/
def ms (s : ByteArray) (k : Bool) : Nat := if k then s.size + 1 else 0
theorem ms_less (s : ByteArray) : ms (cB s) (cK s) < ms s true := by
  unfold ms cB cK
  by_cases h : 0 ≤ Lib.indexByte s.data.toList 47
  · rw [if_pos h, decide_eq_true h]
    simp only [if_true]
    have hi : Lib.indexByte s.data.toList 47 = ((Lib.indexByte s.data.toList 47).toNat : Nat) := by omega
    have h1 := (Lib.indexByte_some hi).1
    have h2 := (List.getElem?_eq_some_iff.1 h1).1
    rw [Array.length_toList] at h2
    have h3 : (Lib.indexByte s.data.toList 47).toNat < s.size := h2
    rw [ByteArray.size_extract]
    omega
  · rw [if_neg h, decide_eq_false h]
    simp
/-- what is handed on of the rest -/
def yr : Nat → ByteArray → Bool → List ByteArray
  | 0, _, _ => []
  | f + 1, s, k => if k then (if cA s = ⟨#[]⟩ then yr f (cB s) (cK s) else cA s :: yr f (cB s) (cK s)) else []
theorem yr_any (f : Nat) : ∀ (g : Nat) (s : ByteArray) (k : Bool), ms s k ≤ f → ms s k ≤ g → yr f s k = yr g s k := by
  induction f with
  | zero =>
    intro g s k hf _
    cases k with
    | false => cases g <;> rfl
    | true => simp [ms] at hf
  | succ f ih =>
    intro g s k hf hg
    cases k with
    | false => cases g <;> rfl
    | true =>
      have hl := ms_less s
      cases g with
      | zero => simp [ms] at hg
      | succ g =>
        have e := ih g (cB s) (cK s) (by omega) (by omega)
        simp only [yr, if_true]
        rw [e]
/-- what is handed on of the rest, and whether there is one -/
def yl (s : ByteArray) (k : Bool) : List ByteArray := yr (ms s k) s k
theorem yl_none (s : ByteArray) : yl s false = [] := rfl
theorem yl_skip {s : ByteArray} (h : cA s = ⟨#[]⟩) : yl s true = yl (cB s) (cK s) := by
  show yr (s.size + 1) s true = _
  simp only [yr, if_true]
  rw [if_pos h]
  exact yr_any _ _ _ _ (by have := ms_less s; simp [ms] at this ⊢; omega) (Nat.le_refl _)
theorem yl_hand {s : ByteArray} (h : ¬ cA s = ⟨#[]⟩) : yl s true = cA s :: yl (cB s) (cK s) := by
  show yr (s.size + 1) s true = _
  simp only [yr, if_true]
  rw [if_neg h]
  exact congrArg _ (yr_any _ _ _ _ (by have := ms_less s; simp [ms] at this ⊢; omega) (Nat.le_refl _))
theorem cB_size (s : ByteArray) : (cB s).size ≤ s.size := by
  unfold cB
  split
  · exact extract_size _ _ _
  · exact Nat.zero_le _

/-- how much is left, off the loop's own variables -/
def msV : Value → Value → Nat
  | .string r, .bool k => ms r k
  | _, _ => 0

set_option maxRecDepth 100000 in
set_option maxHeartbeats 1000000 in
theorem parts1_in (n : Nat) (_hn : 1 ≤ n) (l Bn n₀ : Nat) (s : ByteArray) (hs : s.size ≤ 4000000000000000000) (J Jx : List ByteArray → World → Prop) (B : Nat) (hA : AbidesFrom B J)
    (hY : ∀ pre x W, J pre W → pre.length < (yl (cB s) (cK s)).length → YieldAt Fence.wide (n - 1) Try.prog l #[.string x] W fun e W' =>
      (e = .returned (.bool true) ∧ J (pre ++ [x]) W' ∧ Below n₀ W W') ∨ (e = .returned (.bool false) ∧ Jx (pre ++ [x]) W'))
    (W : World) (hBn : W.cell? ⟨Bn, 0, none⟩ = some (.string s)) (h0 : J [] W) :
    CallsIn Fence.wide n Try.prog 50 #[.func (.yield l) #[] #[], .pointer (some ⟨Bn, 0, none⟩)] W fun e W' => (∃ v, e = .returned v) ∧
      ((∃ ys, ys = yl (cB s) (cK s) ∧ J ys W') ∨ (∃ pre, pre <+: yl (cB s) (cK s) ∧ Jx pre W')) := by
  have HC := Lib.hid (fun (r : ByteArray) (w : World) (h : r.size ≤ s.size) => stringsCut_any r w (by omega))
  have hAd : ∀ pre w q, J pre w → J pre (w.drewN q) := fun pre w q h => hA pre w _ none h ⟨rfl, rfl, rfl, Nat.le_refl _, fun _ _ _ => rfl⟩ (fun r e => by cases e)
  clear hs hA
  refine callsIn_of_wp Try.func50 rfl trivial ?_ rfl
  simp only [Try.ntmps50, List.size_toArray, List.length_cons, List.length_nil, Nat.reduceAdd, Nat.reduceSub, Array.replicate_succ, Array.replicate_zero, List.push_toArray, List.append_toArray, List.nil_append, List.cons_append]
  gi_wp2_with (refine ⟨trivial, ?_⟩; gi_at_call 51; refine (callsIn_wide.2 (HC.out s _ (Nat.le_refl _))).mono ?_; rintro e w' ⟨⟨a, b, k, rfl, hk⟩, q, rfl⟩; obtain ⟨rfl, rfl, rfl⟩ := cut_is hk)
  gi_loopw [4, 5] (fun s4 s5 wr => ∃ (pre : List ByteArray) (rest : ByteArray) (k : Bool), s4 = .string rest ∧ s5 = .bool k ∧ Hid (yl (cB s) (cK s) = pre ++ yl rest k) ∧ Hid (rest.size ≤ s.size) ∧ J pre wr) (fun s4 s5 _ => msV s4 s5)
  case atStart => exact ⟨[], cB s, cK s, rfl, rfl, Lib.hid rfl, Lib.hid (cB_size s), hAd _ _ _ h0⟩
  case round =>
    obtain ⟨pre, rest, k, rfl, rfl, hx, hr, hJ⟩ := hrel
    cases k with
    | false =>
      have e := hx.out
      rw [yl_none, List.append_nil] at e
      have E := Lib.hid e
      clear e
      gi_wp2
      go_end0
      exact ⟨⟨_, rfl⟩, .inl ⟨pre, E.out.symm, hJ⟩⟩
    | true =>
      have HLs := Lib.hid (ms_less rest)
      have HSz := Lib.hid (Nat.le_trans (cB_size rest) hr.out)
      by_cases he : cA rest = ⟨#[]⟩
      · have E := Lib.hid (hx.out.trans (by rw [yl_skip he]))
        have t := str_eq he
        have t0 : (⟨#[]⟩ : ByteArray).toList = [] := by rw [ByteArray.toList_eq]
        rw [t0] at t
        clear he t0
        gi_wp2_with (refine ⟨trivial, ?_⟩; gi_at_call 51; refine (callsIn_wide.2 (HC.out rest _ hr.out)).mono ?_; rintro e w' ⟨⟨a, b, k, rfl, hk⟩, q, rfl⟩; obtain ⟨rfl, rfl, rfl⟩ := cut_is hk)
        refine ⟨fun _ h => (by cases h), ?_⟩
        gi_wp2
        go_roundw
        case rel => exact ⟨pre, cB rest, cK rest, rfl, rfl, E, HSz, hAd _ _ _ hJ⟩
        case measure => exact HLs.out
      · have E := Lib.hid (hx.out.trans (by rw [yl_hand he]))
        have t := str_ne he
        have t0 : (⟨#[]⟩ : ByteArray).toList = [] := by rw [ByteArray.toList_eq]
        rw [t0] at t
        clear he t0
        gi_wp2_with (refine ⟨trivial, ?_⟩; gi_at_call 51; refine (callsIn_wide.2 (HC.out rest _ hr.out)).mono ?_; rintro e w' ⟨⟨a, b, k, rfl, hk⟩, q, rfl⟩; obtain ⟨rfl, rfl, rfl⟩ := cut_is hk; obtain ⟨fn, tmps, assign, body, hy, hR⟩ := hY pre (cA rest) _ (hAd pre _ q hJ) (by rw [E.out]; simp))
        refine hR.mono ?_
        rintro e W3 (⟨rfl, hJ3, hk3⟩ | ⟨rfl, hJx3⟩)
        · gi_wp2
          go_roundw
          case rel => exact ⟨pre ++ [cA rest], cB rest, cK rest, rfl, rfl, Lib.hid (by rw [E.out]; simp), HSz, hJ3⟩
          case measure => exact HLs.out
        · gi_wp2
          refine bodyPost_ret (results_none rfl _ _ _) rfl ?_
          exact ⟨⟨_, rfl⟩, .inr ⟨pre ++ [cA rest], ⟨yl (cB rest) (cK rest), by rw [E.out]; simp⟩, hJx3⟩⟩

set_option maxHeartbeats 1000000 in
theorem partsOf_in (n : Nat) (s : ByteArray) (w : World) :
    CallsIn Fence.wide n Try.prog 32 #[.string s] w fun e w' => e = .returned (.func (.func 50) #[] #[.pointer (some ⟨w.heap.size, 0, none⟩)]) ∧ w' = w.alloc (.cells #[.string s] 9) := by
  refine callsIn_of_wp Try.func32 rfl trivial ?_ rfl
  simp only [Try.ntmps32, List.size_toArray, List.length_cons, List.length_nil, Nat.reduceAdd, Nat.reduceSub, Array.replicate_succ, Array.replicate_zero, List.push_toArray, List.append_toArray, List.nil_append, List.cons_append]
  gi_wp2
  go_ret
  exact ⟨rfl, rfl⟩

theorem parts_stops (n : Nat) (hn : 1 ≤ n) (Bn n₀ : Nat) (s : ByteArray) (hs : s.size ≤ 4000000000000000000) (w : World) (hBn : Bn < w.heap.size) (_hn₀ : n₀ ≤ w.heap.size) (hc : w.cell? ⟨Bn, 0, none⟩ = some (.string s)) :
    SeqStopsK Fence.wide n Try.prog 50 #[.pointer (some ⟨Bn, 0, none⟩)] (fun x : ByteArray => #[Value.string x]) (Below n₀) (fun ys => ys = yl (cB s) (cK s)) (fun pre => pre <+: yl (cB s) (cK s)) (yl (cB s) (cK s)).length w := fun l J Jx W hW hJ _ hY h0 =>
  parts1_in n hn l Bn n₀ s hs J Jx _ hJ hY W ((hW.cell (p := ⟨Bn, 0, none⟩) hBn).trans hc) h0
end Go.Proofs.Ytaielamimkigmaa
