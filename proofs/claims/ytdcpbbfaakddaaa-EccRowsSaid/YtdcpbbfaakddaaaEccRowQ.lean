/-
  What may be a row of blocks, and how many bytes its codes have.
-/
import Derived.Test.YtdcpbbfaakddaaaEccChunk
import Derived.Test.YtdcpbbfaakddaaaEccRowsM
import Derived.Laws.OwnMore
namespace Go.Proofs.Ytdcpbbfaakddaaa
open Go.RowKit Go.Shelf Crcm Eccm Go.ChangeShapes

theorem row_no (a : Option Addr) (L c : Nat) (N : Int) (w : World) (hL : L ≤ maxLen) (h : ¬ (1 ≤ N ∧ N ≤ 4096 ∧ L ≤ 65536)) :
    Calls Try.prog 32 #[.slice a L c, .int .i64 N] w fun e w' => e = .returned (.bool false) ∧ w = w' := by
  unfold maxLen at hL
  by_cases h1 : 1 ≤ N
  · by_cases h2 : N ≤ 4096
    · have h3 : decide ((L : Int) ≤ 65536) = false := by simp; omega
      clear h
      go_enter Try.func32, Try.ntmps32
      go_wp2
      go_ret
      exact ⟨rfl, rfl⟩
    · have h3 : decide (N ≤ 4096) = false := by simpa using h2
      clear h
      go_enter Try.func32, Try.ntmps32
      go_wp2
      go_ret
      exact ⟨rfl, rfl⟩
  · have h3 : decide (1 ≤ N) = false := by simpa using h1
    clear h
    go_enter Try.func32, Try.ntmps32
    go_wp2
    go_ret
    exact ⟨rfl, rfl⟩
theorem row_yes (a : Option Addr) (L c n : Nat) (w : World) (h1 : 1 ≤ n) (h2 : n ≤ 4096) (hL : L ≤ 65536) :
    Calls Try.prog 32 #[.slice a L c, .int .i64 n] w fun e w' => e = .returned (.bool true) ∧ w = w' := by
  have t : decide ((L : Int) ≤ 65536) = true := by simp; omega
  go_enter Try.func32, Try.ntmps32
  go_wp2
  go_ret
  exact ⟨rfl, rfl⟩
theorem csize_any (a : Option Addr) (L c n : Nat) (w : World) (h1 : 1 ≤ n) (h2 : n ≤ 4096) (hL : L ≤ 65536) :
    Calls Try.prog 33 #[.slice a L c, .int .i64 n] w fun e w' => e = .returned (.int .i64 (4 * nbk L n : Nat)) ∧ w = w' := by
  have hb : nbk L n ≤ L + n - 1 := Nat.div_le_self _ _
  have e1 : ((L : Int) + (n : Int) - 1).tdiv (n : Int) = ((nbk L n : Nat) : Int) := by
    unfold nbk
    rw [show ((L : Int) + (n : Int) - 1) = ((L + n - 1 : Nat) : Int) by omega]
    rfl
  generalize nbk L n = m at *
  have hm : m ≤ 70000 := by omega
  go_enter Try.func33, Try.ntmps33
  go_wp2
  go_ret
  exact ⟨rfl, rfl⟩
theorem own_form8 {w : World} {base k : Nat} {v : Value} {xs : List Value} {e : TypeId} (h : w.ownsRow base e 1 v k xs) : ∃ a c, v = .slice a k c := by
  rcases h.2 with ⟨rfl, rfl⟩ | ⟨g, cap, cur, rfl, _⟩
  · exact ⟨none, 0, rfl⟩
  · exact ⟨_, cap, rfl⟩
theorem own_room {w : World} {base g n cap : Nat} {xs : List Value} {e : TypeId} (h : w.ownsRow base e 1 (.slice (some ⟨g, 0, none⟩) n cap) n xs) (hn : n < cap) : ∃ v, w.cell? ⟨g, n, none⟩ = some v := by
  rcases h.2 with ⟨h', _⟩ | ⟨g', cap', cur, h', _, hg, _, _, hcs, _⟩
  · simp at h'
  · simp only [Value.slice.injEq, Option.some.injEq, Addr.mk.injEq, and_true, true_and] at h'
    obtain ⟨rfl, rfl⟩ := h'
    rw [cell_of_row w g n cur e (0, 0) hg]
    exact ⟨cur[n]'(by omega), Array.getElem?_eq_getElem (by omega)⟩
theorem own_push {w : World} {base g n cap : Nat} {xs : List Value} {e : TypeId} (h : w.ownsRow base e 1 (.slice (some ⟨g, 0, none⟩) n cap) n xs) (hn : n < cap) (u : Value) :
    (w.setCell ⟨g, n, none⟩ u).ownsRow base e 1 (.slice (some ⟨g, 0, none⟩) (n + 1) cap) (n + 1) (xs ++ [u]) := by
  have hx := h.1
  rcases h.2 with ⟨h', _⟩ | ⟨g', cap', cur, h', hb, hg, hnc, hcm, hcs, htake⟩
  · simp at h'
  · simp only [Value.slice.injEq, Option.some.injEq, Addr.mk.injEq, and_true, true_and] at h'
    obtain ⟨rfl, rfl⟩ := h'
    refine ⟨by simp; omega, .inr ⟨g, cap, cur.setIfInBounds n u, rfl, hb, heap_setCell_same w g n cur e u hg, by omega, hcm, by simpa using hcs, ?_⟩⟩
    rw [Array.toList_setIfInBounds, ← htake]
    have hl : n < cur.toList.length := by rw [Array.length_toList]; omega
    rw [Nat.mul_one, Nat.mul_one, List.take_succ_eq_append_getElem (by rw [List.length_set]; exact hl), List.getElem_set_self, List.take_set, List.set_eq_of_length_le (by rw [List.length_take]; omega)]
theorem own_keep {w : World} {base g g0 o n cap : Nat} {xs : List Value} {e : TypeId} (h : w.ownsRow base e 1 (.slice (some ⟨g0, 0, none⟩) n cap) n xs) (hne : g0 ≠ g) (u : Value) :
    (w.setCell ⟨g, o, none⟩ u).ownsRow base e 1 (.slice (some ⟨g0, 0, none⟩) n cap) n xs :=
  h.kept (row := some g) ⟨rfl, rfl, rfl, by simp [World.setCell], fun k _ hk => Below.heap_setCell _ _ _ _ (fun e => hk (by rw [e]))⟩ (.inr (by simp [Value.ownBlock]; exact hne))
theorem boxed_other {W : World} {B g o : Nat} {t : TypeId} {v : Value} (h : Boxed W B t v) (hne : B ≠ g) (u : Value) : Boxed (W.setCell ⟨g, o, none⟩ u) B t v :=
  (Below.heap_setCell W ⟨g, o, none⟩ u B hne).trans h
theorem ck_rw {W : World} {a : Option Addr} {l : List Int} {n x b off : Nat} (hr : Rw W a l) (ha : l.length = 0 ∨ a = some ⟨b, off, none⟩) : Rw W (some ⟨b, off + x * n, none⟩) (ck l n x) := by
  by_cases h : x * n < l.length
  · have ha' : a = some ⟨b, off, none⟩ := by rcases ha with h0 | h0; omega; exact h0
    exact (hr.drop (x * n) (a' := some ⟨b, off + x * n, none⟩) (fun b' off' e _ => by rw [ha'] at e; injection e with e; injection e with e1 e2; subst e1 e2; rfl)).take n
  · have : ck l n x = [] := by unfold ck; rw [List.drop_of_length_le (by omega), List.take_nil]
    rw [this]; exact Rw.nil
end Go.Proofs.Ytdcpbbfaakddaaa
