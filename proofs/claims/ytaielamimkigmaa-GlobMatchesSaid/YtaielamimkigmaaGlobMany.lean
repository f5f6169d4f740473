/-
  Rows of texts that came in, within the form's reach: how much these statements look at.
-/
import Derived.Test.YtaielamimkigmaaGlobKn
import Derived.SliceStrings
import Derived.SizedLaws
namespace Go
open Go.RowKit Go.ChangeShapes
theorem size_weightsAll {H : Type} (P : Program) (e : TypeId) : ∀ (l : List ByteArray) (s : ByteArray), s ∈ l → s.size ∈ DataW.weightsAll (H := H) P e (strs l)
  | [], s, h => by simp at h
  | x :: l, s, h => by
    show s.size ∈ DataW.weights P e (.lit (.string x.data.toList)) ++ DataW.weightsAll P e (strs l)
    rcases List.mem_cons.1 h with rfl | h
    · exact List.mem_append_left _ (by simp [DataW.weights])
    · exact List.mem_append_right _ (size_weightsAll P e l s h)
theorem sized_strings {H : Type} {P : Program} {ts : List TypeId} {ds : List (DataW H)} (h : (DataW.weightsEach P ts ds).all (· ≤ reachBytes) = true) {j : Nat} {t e : TypeId} {l1 l2 : List ByteArray} (ht : ts[j]? = some t) (hd : ds[j]? = some (.slice (strs l1) (strs l2))) (hu : P.underlying t = some (.slice e)) :
    ∀ s ∈ l1 ++ l2, s.size ≤ reachBytes := by
  intro s hs
  have := List.all_eq_true.1 h _ (DataW.weights_mem_each ht hd s.size (by
    rw [DataW.weights, hu]
    refine List.mem_cons_of_mem _ ?_
    rcases List.mem_append.1 hs with q | q
    · exact List.mem_append_left _ (size_weightsAll P e l1 s q)
    · exact List.mem_append_right _ (size_weightsAll P e l2 s q)))
  simpa using this
end Go
namespace Go.Proofs.Ytaielamimkigmaa
open Go.RowKit Go.ChangeShapes Globm Go.ChangeMaps

set_option maxRecDepth 100000 in
set_option maxHeartbeats 1000000 in
theorem gsize_any (l : List ByteArray) (a : Option Addr) (c n : Nat) (w : World) (ha : Rs w a l) (hl : l.length = n) (hz : ∀ s ∈ l, s.size ≤ 140737488351232) :
    Calls Try.prog 28 #[.slice a n c, .int .i64 400] w fun e w' => (∃ z : Int, e = .returned (.int .i64 z) ∧ Hid (z ≤ 400 → ∀ s ∈ l, s.size ≤ 400)) ∧ Below w.heap.size w w' := by
  have hm1 := ha.2.1
  unfold maxLen at hm1
  have n1 : n ≤ 9223372036854775807 := by omega
  have HA := Lib.hid ha.2.2
  have HL := Lib.hid hl
  have HZ := Lib.hid hz
  clear ha hl hm1 hz
  go_enter Try.func28, Try.ntmps28
  go_wp2_with fail
  go_loopw [5, 6] (fun x i wr => ∃ z : Int, ∃ k : Nat, k ≤ n ∧ x = .int .i64 z ∧ i = .int .i64 k ∧ 0 ≤ z ∧ Hid (Below w.heap.size w wr) ∧ Hid (∀ j (h : j < l.length), j < k → (l[j].size : Int) ≤ z)) (fun _ i _ => n - (intOf i).toNat)
  case atStart => exact ⟨0, 0, by omega, rfl, rfl, by omega, Lib.hid (Below.refl _ _), Lib.hid (fun j h g => absurd g (Nat.not_lt_zero _))⟩
  case round =>
    obtain ⟨z, k, hk, rfl, rfl, hz0, hbel, hS⟩ := hrel
    by_cases hlt : k < n
    · have t1 : decide ((k : Int) < (n : Int)) = true := by simp; omega
      by_cases hz : z ≤ 400
      · have t2 : decide (z ≤ 400) = true := decide_eq_true hz
        have hkl : k < l.length := by have := HL.out; omega
        rcases HA.out with rfl | ⟨b1, o1, rfl, h1⟩
        · simp at hkl
        have c1 := (hbel.out.cell (block_lt_of_cell (h1 k hkl))).trans (h1 k hkl)
        have hxz := HZ.out l[k] (List.getElem_mem hkl)
        have HN : Hid (∀ j (h : j < l.length), j < k + 1 → (l[j].size : Int) ≤ z + 1 + (l[k].size : Int)) := Lib.hid (fun j h g => by
          rcases Nat.lt_succ_iff_lt_or_eq.1 g with g | rfl
          · have := hS.out j h g; omega
          · omega)
        generalize l[k] = x at c1 HN hxz
        have kl : (k : Int) < (n : Int) := by omega
        have hxI : (x.size : Int) ≤ 140737488351232 := by omega
        clear h1 hkl hxz
        go_wp2
        go_roundw
        case rel => exact ⟨_, k + 1, by omega, rfl, by go_num, by go_num, hbel, by first | exact HN | (rw [IntWalk.wrap64_in (z + 1) ⟨by omega, by omega⟩, IntWalk.wrap64_in _ ⟨by omega, by omega⟩]; exact HN)⟩
        case measure => simp [intOf]; omega
      · have t2 : decide (z ≤ 400) = false := decide_eq_false hz
        have HZ2 := Lib.hid hz
        go_wp2
        go_ret
        exact ⟨⟨_, rfl, Lib.hid fun h => absurd h (by have := HZ2.out; omega)⟩, hbel.out⟩
    · have t1 : decide ((k : Int) < (n : Int)) = false := by simp; omega
      have HF : Hid (z ≤ 400 → ∀ s ∈ l, s.size ≤ 400) := Lib.hid (fun hz s hs => by
        obtain ⟨j, hj, rfl⟩ := List.getElem_of_mem hs
        have := hS.out j hj (by have := HL.out; omega)
        omega)
      go_wp2
      go_ret
      exact ⟨⟨_, rfl, HF⟩, hbel.out⟩

set_option maxRecDepth 100000 in
theorem many_any (l : List ByteArray) (a : Option Addr) (c n : Nat) (w : World) (ha : Rs w a l) (hl : l.length = n) (hz : ∀ s ∈ l, s.size ≤ 140737488351232) :
    Calls Try.prog 12 #[.slice a n c] w fun e w' => (∃ b : Bool, e = .returned (.bool b) ∧ Hid (b = false → n ≤ 20 ∧ ∀ s ∈ l, s.size ≤ 400)) ∧ Below w.heap.size w w' := by
  have H := Lib.hid (gsize_any l a c n w ha hl hz)
  clear ha hl hz
  go_enter Try.func12, Try.ntmps12
  go_wp2_with fail
  refine H.out.mono ?_
  rintro e w2 ⟨⟨z, rfl, hz⟩, hb⟩
  by_cases h : z ≤ 400
  · have t1 : decide (400 < z) = false := by simp; omega
    have HZ := Lib.hid (hz.out h)
    have HX : Hid (decide (20 < (n : Int)) = false → n ≤ 20 ∧ ∀ s ∈ l, s.size ≤ 400) := Lib.hid (fun q => ⟨by simp at q; omega, HZ.out⟩)
    clear h hz
    go_wp2
    go_ret
    exact ⟨⟨_, rfl, HX⟩, hb⟩
  · have t1 : decide (400 < z) = true := by simp; omega
    clear h hz
    go_wp2
    go_ret
    exact ⟨⟨_, rfl, Lib.hid (fun q => by cases q)⟩, hb⟩
end Go.Proofs.Ytaielamimkigmaa
