/-
  What a row that is laid over places remembers of its runs: the map in memory.
-/
import Derived.Test.YtaielamimkigmaaGlobMath
import Derived.Test.YtaielamimkigmaaGlobSpan
import Derived.Maps.OwnSet
import Derived.Maps.AppendAt
namespace Go.Proofs.Ytaielamimkigmaa
open Go.RowKit Go.ChangeShapes Globm Go.ChangeMaps

theorem grown_below {w w' : World} (h : Below w.heap.size w w') (row : Option Nat) : w.grownBy w' row := ⟨h.os, h.tape, h.output, h.size, fun k hk _ => h.block k hk⟩
theorem intKeyed : Maps.Keyed Try.prog 3 := Maps.int_keyed Try.underlying3
theorem zeroI (w : World) : (zeroValue 3).run Try.prog w = .ok (.int .i64 0) w := by kernel_rfl
/-- a piece's number as a key -/
def ki (i : Nat) : Lit := .int .i64 i
theorem wfN {i : Nat} (h : i ≤ 100000) : (Lit.int .i64 (i : Int)).wf = true := WalkArith.wf_i64 (by omega)
theorem keyI {i : Nat} (h : i ≤ 100000) : keyOf Try.prog 3 (.int .i64 i) = some (ki i) := Maps.keyOf_int_mk Try.underlying3 (wfN h)
theorem ki_inj {i j : Nat} (h : i ≠ j) : ki i ≠ ki j := by unfold ki; intro e; injection e with _ e; omega

theorem filt_more {p q : Nat → Bool} {i N : Nat} (hi : i < N) (h0 : p i = false) (h1 : q i = true) (h : ∀ j, j ≠ i → q j = p j) : ((List.range N).filter q).length = ((List.range N).filter p).length + 1 := by
  induction N with
  | zero => omega
  | succ N ih =>
    rw [List.range_succ, List.filter_append, List.filter_append, List.length_append, List.length_append]
    by_cases e : i = N
    · subst e
      have : (List.range i).filter q = (List.range i).filter p := List.filter_congr fun j hj => h j (by have := List.mem_range.1 hj; omega)
      rw [this]
      simp [h0, h1]
    · have := ih (by omega)
      rw [this]
      have : q N = p N := h N (fun g => e g.symm)
      simp [List.filter_cons, this]
      omega
def cnt (D : DataW Unit) (N : Nat) : Nat := ((List.range N).filter (fun i => Maps.has D (ki i))).length
theorem cnt_le (D : DataW Unit) (N : Nat) : cnt D N ≤ N := by
  unfold cnt
  have := List.length_filter_le (fun i => Maps.has D (ki i)) (List.range N)
  simpa using this

theorem own_small {w : World} {k : TypeId} {R : Value → Option (DataW Unit × List MemPlace)} {b n N : Nat} {D : DataW Unit} (h : w.ownsMap Try.prog k R b n D) (hs : Maps.size D ≤ N) : w.ownsMap Try.prog k R b N D := by
  obtain ⟨es, clock, hb, F, _, rfl⟩ := h
  refine ⟨es, clock, hb, F, ?_, rfl⟩
  simpa [Maps.size, Go.length_sorted] using hs

/-- the map at block B: of each run the first place from which it was tried in vain -/
def Vn (w : World) (B N : Nat) (run : Nat → Bool) (f : Nat → Nat → Bool) : Prop :=
  ∃ D : DataW Unit, w.ownsMap Try.prog 3 (plainElem Try.prog 3) B N D ∧ Maps.size D ≤ cnt D N ∧
    ∀ i, i < N → Maps.has D (ki i) = true → run i = true ∧ ∃ k0 : Nat, D.atKey (ki i) (.lit (.int .i64 0)) = .lit (.int .i64 k0) ∧ f i k0 = false
theorem Vn.new (w : World) (N : Nat) (run : Nat → Bool) (f : Nat → Nat → Bool) : Vn (w.alloc (.map #[] 0)) w.heap.size N run f :=
  ⟨.map [], (World.ownsMap_made _ _ _ _).mono (Nat.zero_le _), Nat.zero_le _, fun i _ h => by simp [Maps.has] at h⟩
theorem Vn.below {w w' : World} {B N : Nat} {run : Nat → Bool} {f : Nat → Nat → Bool} (h : Vn w B N run f) (hb : Below w.heap.size w w') : Vn w' B N run f := by
  obtain ⟨D, ho, h1, h2⟩ := h
  exact ⟨D, ho.kept (grown_below hb none) (by simp), h1, h2⟩
theorem Vn.lt {w : World} {B N : Nat} {run : Nat → Bool} {f : Nat → Nat → Bool} (h : Vn w B N run f) : B < w.heap.size := by obtain ⟨D, ho, _⟩ := h; exact ho.lt
theorem Vn.put {w' : World} {B N i k : Nat} {run : Nat → Bool} {f : Nat → Nat → Bool} {w : World} {D : DataW Unit} (ho : w.ownsMap Try.prog 3 (plainElem Try.prog 3) B N D) (h1 : Maps.size D ≤ cnt D N)
    (h2 : ∀ i, i < N → Maps.has D (ki i) = true → run i = true ∧ ∃ k0 : Nat, D.atKey (ki i) (.lit (.int .i64 0)) = .lit (.int .i64 k0) ∧ f i k0 = false)
    (hi : i < N) (hN : N ≤ 100000) (hr : run i = true) (hf : f i k = false)
    (ho' : w'.ownsMap Try.prog 3 (plainElem Try.prog 3) B (N + 1) (D.put (ki i) (.lit (.int .i64 k)))) : Vn w' B N run f := by
  have hs : Maps.size (D.put (ki i) (.lit (.int .i64 k))) ≤ cnt (D.put (ki i) (.lit (.int .i64 k))) N := by
    rw [Maps.size_put (ho.tidy intKeyed)]
    cases hh : Maps.has D (ki i) with
    | true =>
      have : cnt (D.put (ki i) (.lit (.int .i64 k))) N = cnt D N := by
        unfold cnt
        congr 1
        refine List.filter_congr fun j _ => ?_
        by_cases e : j = i
        · subst e; rw [Maps.has_put_same ho.isMap (intKeyed.key (keyI (by omega))), hh]
        · rw [Maps.has_put_other (ki_inj e)]
      rw [this]; simpa using h1
    | false =>
      have : cnt (D.put (ki i) (.lit (.int .i64 k))) N = cnt D N + 1 := by
        unfold cnt
        exact filt_more hi hh (Maps.has_put_same ho.isMap (intKeyed.key (keyI (by omega))) _) fun j e => Maps.has_put_other (ki_inj e) _
      rw [this]; simpa using h1
  refine ⟨_, own_small ho' (Nat.le_trans hs (cnt_le _ _)), hs, fun j hj h => ?_⟩
  by_cases e : j = i
  · subst e
    exact ⟨hr, k, Maps.atKey_put_same ho.isMap (intKeyed.key (keyI (by omega))) _ _, hf⟩
  · rw [Maps.has_put_other (ki_inj e)] at h
    rw [Maps.atKey_put_other (ki_inj e)]
    exact h2 j hj h
end Go.Proofs.Ytaielamimkigmaa
