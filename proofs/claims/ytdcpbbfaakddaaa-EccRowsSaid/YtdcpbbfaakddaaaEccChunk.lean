/-
  Rows of bytes cut into blocks, handed on one by one: the library's iterator.
-/
import Derived.RangeFuncBox
import Derived.RangeFuncLeaves
import Derived.Shelf.Abstract
import Derived.OwnWalkIn
import Derived.TacticsInMore
import Derived.LoopNIn
import Derived.LoopIn
import Derived.Stop.RegionWithIn
import Derived.Maps.AppendAt
import Derived.Test.YtdcpbbfaakddaaaEccLawA
namespace Go.Proofs.Ytdcpbbfaakddaaa
open Go.RowKit Go.Shelf Crcm Eccm Go.ChangeShapes

attribute [local go_sem] Oper.semAt_some

/-- how many blocks -/
def nbk (L n : Nat) : Nat := (L + n - 1) / n
/-- how long the block i is -/
def bln (L n i : Nat) : Nat := if L - i * n < n then L - i * n else n
/-- the block i, as it is handed on -/
def bsl (b off L n i : Nat) : Value := .slice (some ⟨b, off + i * n, none⟩) (bln L n i) (bln L n i)
theorem nbk_lt {L n i : Nat} (hn : 1 ≤ n) : i < nbk L n ↔ i * n < L := by
  unfold nbk
  rw [show (i < (L + n - 1) / n ↔ i + 1 ≤ (L + n - 1) / n) from Iff.rfl, Nat.le_div_iff_mul_le (by omega), Nat.add_mul]
  omega
theorem bln_pos {L n i : Nat} (hn : 1 ≤ n) (h : i * n < L) : 1 ≤ bln L n i ∧ bln L n i ≤ n ∧ i * n + bln L n i ≤ L := by
  unfold bln; split <;> omega

theorem range_pre {k m : Nat} (h : k < m) : List.range (k + 1) <+: List.range m := by
  refine ⟨(List.range (m - (k + 1))).map (k + 1 + ·), ?_⟩
  rw [← List.range_add]; congr 1; omega
/-- two blocks lie as they lay -/
def K2 (p q : Nat) (W W' : World) : Prop := W'.heap[p]? = W.heap[p]? ∧ W'.heap[q]? = W.heap[q]?
theorem K2.trans {p q : Nat} {A B C : World} (h : K2 p q A B) (k : K2 p q B C) : K2 p q A C := ⟨k.1.trans h.1, k.2.trans h.2⟩

set_option maxRecDepth 100000 in
set_option maxHeartbeats 1000000 in
theorem chunk_in (d : Nat) (_hd : 1 ≤ d) (y p q b off L c n : Nat) (a : Option Addr) (J Jx : List Nat → World → Prop) (ha : L = 0 ∨ a = some ⟨b, off, none⟩) (hL : L ≤ 65536) (hLc : L ≤ c) (hn : 1 ≤ n) (hn2 : n ≤ 4096)
    (B : Nat) (hA : AbidesFrom B J)
    (hY : ∀ pre i W, J pre W → pre.length < nbk L n → YieldAt Fence.wide (d - 1) Try.prog y #[bsl b off L n i] W fun e W' =>
      (e = .returned (.bool true) ∧ J (pre ++ [i]) W' ∧ K2 p q W W') ∨ (e = .returned (.bool false) ∧ Jx (pre ++ [i]) W'))
    (W : World) (hp : W.cell? ⟨p, 0, none⟩ = some (.slice a L c)) (hq : W.cell? ⟨q, 0, none⟩ = some (.int .i64 n)) (h0 : J [] W) :
    CallsIn Fence.wide d Try.prog 41 #[.func (.yield y) #[] #[], .pointer (some ⟨p, 0, none⟩), .pointer (some ⟨q, 0, none⟩)] W fun e W' => (∃ v, e = .returned v) ∧
      ((∃ ys, ys = List.range (nbk L n) ∧ J ys W') ∨ (∃ pre, pre <+: List.range (nbk L n) ∧ Jx pre W')) := by
  have hAd : ∀ pre w, J pre w → J pre w.drew := fun pre w h => hA pre w _ none h ⟨rfl, rfl, rfl, Nat.le_refl _, fun _ _ _ => rfl⟩ (fun r e => by cases e)
  clear hA
  have HC : Hid (∀ wr, K2 p q W wr → wr.cell? ⟨p, 0, none⟩ = some (.slice a L c) ∧ wr.cell? ⟨q, 0, none⟩ = some (.int .i64 n)) := Lib.hid fun wr hk => ⟨(World.cell?_of_block (a := ⟨p, 0, none⟩) hk.1).trans hp, (World.cell?_of_block (a := ⟨q, 0, none⟩) hk.2).trans hq⟩
  refine callsIn_of_wp Try.func41 rfl trivial ?_ rfl
  simp only [Try.ntmps41, List.size_toArray, List.length_cons, List.length_nil, Nat.reduceAdd, Nat.reduceSub, Array.replicate_succ, Array.replicate_zero, List.push_toArray, List.append_toArray, List.nil_append, List.cons_append]
  gi_wp2_with fail
  gi_loopw [4] (fun s4 wr => ∃ k : Nat, s4 = .int .i64 ((k * n : Nat) : Int) ∧ k ≤ nbk L n ∧ Hid (J (List.range k) wr) ∧ Hid (K2 p q W wr)) (fun s4 _ => 200000 - (intOf s4).toNat)
  case atStart => exact ⟨0, by simp, by omega, Lib.hid h0, Lib.hid ⟨rfl, rfl⟩⟩
  case round =>
    obtain ⟨k, rfl, hk, hJ, hK⟩ := hrel
    obtain ⟨cp, cq⟩ := HC.out wr hK.out
    by_cases hlt : k < nbk L n
    · have hkL := (nbk_lt hn).1 hlt
      have ha' : a = some ⟨b, off, none⟩ := by rcases ha with h | h; omega; exact h
      subst ha'
      obtain ⟨B1, B2, B3⟩ := bln_pos hn hkL
      have hi8 : k * n ≤ 65536 := by omega
      have HBL : Hid (bsl b off L n k = .slice (some ⟨b, off + k * n, none⟩) (bln L n k) (bln L n k)) := Lib.hid rfl
      have hiL : ((k * n : Nat) : Int) < (L : Int) := by omega
      have hic : ((k * n : Nat) : Int) ≤ (c : Int) := by omega
      obtain ⟨fn, tmps, assign, body, hy, hR⟩ := hY (List.range k) k wr.drew (hAd _ _ hJ.out) (by rw [List.length_range]; exact hlt)
      rw [HBL.out] at hy
      have hn1 : (k + 1) * n = k * n + n := by rw [Nat.add_mul, Nat.one_mul]
      have hm : Hid ((if L - k * n < n then ((L - k * n : Nat) : Int) else (n : Int)) = ((bln L n k : Nat) : Int)) := Lib.hid (by unfold bln; split <;> rfl)
      have HRR := Lib.hid hR
      clear HBL hR
      generalize hi : k * n = i at *
      generalize bln L n k = m at *
      have e1 := hm.out
      gi_wp2_with fail
      gi_region_with (fail)
      all_goals gi_wp2_with fail
      all_goals
        refine HRR.out.mono ?_
        rintro e W3 (⟨rfl, hJ3, hk3⟩ | ⟨rfl, hJx3⟩)
        · have hK3 : K2 p q W W3 := hK.out.trans hk3
          obtain ⟨cp3, cq3⟩ := HC.out W3 hK3
          have HJ3 := Lib.hid hJ3
          have HK3 := Lib.hid hK3
          clear hJ3 hK3 hk3
          gi_wp2
          go_roundw
          case rel => exact ⟨k + 1, by rw [hn1]; go_num, by omega, by rw [List.range_succ]; exact HJ3, HK3⟩
          case measure => simp [intOf]; omega
        · have HJx := Lib.hid hJx3
          clear hJx3
          gi_wp2
          refine bodyPost_ret (results_none rfl _ _ _) rfl ?_
          exact ⟨⟨_, rfl⟩, .inr ⟨List.range k ++ [k], by rw [← List.range_succ]; exact range_pre hlt, HJx.out⟩⟩
    · have hkn : k = nbk L n := by omega
      have hkL : ¬ k * n < L := fun h => hlt ((nbk_lt hn).2 h)
      have hkL2 : (L : Int) ≤ ((k * n : Nat) : Int) := by omega
      have HJ2 : Hid (J (List.range (nbk L n)) wr) := by rw [← hkn]; exact hJ
      clear hkn hkL hJ
      gi_wp2
      go_end0
      exact ⟨⟨_, rfl⟩, .inl ⟨_, rfl, HJ2.out⟩⟩

/-- what the iterator's maker gives -/
theorem chunkOf_in (d : Nat) (a : Option Addr) (L c n : Nat) (w : World) (hn : 1 ≤ n) (hn2 : n ≤ 4096) :
    CallsIn Fence.wide d Try.prog 34 #[.slice a L c, .int .i64 n] w fun e w' => e = .returned (.func (.func 41) #[] #[.pointer (some ⟨w.heap.size, 0, none⟩), .pointer (some ⟨w.heap.size + 1, 0, none⟩)]) ∧ w' = (w.alloc (.cells #[.slice a L c] 22)).alloc (.cells #[.int .i64 n] 3) := by
  refine callsIn_of_wp Try.func34 rfl trivial ?_ rfl
  simp only [Try.ntmps34, List.size_toArray, List.length_cons, List.length_nil, Nat.reduceAdd, Nat.reduceSub, Array.replicate_succ, Array.replicate_zero, List.push_toArray, List.append_toArray, List.nil_append, List.cons_append]
  gi_wp2
  go_ret
  exact ⟨rfl, rfl⟩
theorem chunk_stops (d : Nat) (hd : 1 ≤ d) (p q b off L c n : Nat) (a : Option Addr) (ha : L = 0 ∨ a = some ⟨b, off, none⟩) (hL : L ≤ 65536) (hLc : L ≤ c) (hn : 1 ≤ n) (hn2 : n ≤ 4096) (w : World) (hpl : p < w.heap.size) (hql : q < w.heap.size)
    (hp : w.cell? ⟨p, 0, none⟩ = some (.slice a L c)) (hq : w.cell? ⟨q, 0, none⟩ = some (.int .i64 n)) :
    SeqStopsK Fence.wide d Try.prog 41 #[.pointer (some ⟨p, 0, none⟩), .pointer (some ⟨q, 0, none⟩)] (fun i : Nat => #[bsl b off L n i]) (K2 p q) (fun ys => ys = List.range (nbk L n)) (fun pre => pre <+: List.range (nbk L n)) (nbk L n) w := fun y J Jx W hW hJ _ hY h0 =>
  chunk_in d hd y p q b off L c n a J Jx ha hL hLc hn hn2 _ hJ hY W ((hW.cell (p := ⟨p, 0, none⟩) hpl).trans hp) ((hW.cell (p := ⟨q, 0, none⟩) hql).trans hq) h0
end Go.Proofs.Ytdcpbbfaakddaaa
