/-
  How great a row of texts is, as far as it is asked; what lies in what.
-/
import Derived.Test.YtkhfobliclfhcaaPathKnown
namespace Go.Proofs.Ytkhfobliclfhcaa
open Go.RowKit Go.ChangeShapes

theorem Ins.trans {l m k : List ByteArray} (h : Ins l m) (g : Ins m k) : Ins l k := by
  obtain ⟨h1, h2⟩ := h
  obtain ⟨g1, g2⟩ := g
  refine ⟨by omega, ?_⟩
  have : (l.take m.length).take k.length = k := by rw [h2]; exact g2
  rw [List.take_take, Nat.min_eq_left (by omega)] at this
  exact this
theorem Ins.not_self {l : List ByteArray} : ¬ Ins l l := fun h => absurd h.1 (by omega)
theorem Ins.not_back {l m : List ByteArray} (h : Ins l m) : ¬ Ins m l := fun g => by have := h.1; have := g.1; omega
theorem Ins.root {l : List ByteArray} (h : 0 < l.length) : Ins l [] := ⟨h, rfl⟩

set_option maxRecDepth 100000 in
set_option maxHeartbeats 1000000 in
theorem size_any (l : List ByteArray) (a : Option Addr) (c n : Nat) (w : World) (ha : Rs w a l) (hl : l.length = n) :
    Calls Try.prog 7 #[.slice a n c, .int .i64 900] w fun e w' => (∃ z : Int, e = .returned (.int .i64 z)) ∧ Below w.heap.size w w' := by
  have hm1 := ha.2.1
  unfold maxLen at hm1
  have n1 : n ≤ 9223372036854775807 := by omega
  have HA := Lib.hid ha.2.2
  have HL := Lib.hid hl
  clear ha hl hm1
  go_enter Try.func7, Try.ntmps7
  go_wp2_with fail
  go_loopw [5, 6] (fun x i wr => ∃ z : Int, ∃ k : Nat, k ≤ n ∧ x = .int .i64 z ∧ i = .int .i64 k ∧ Hid (Below w.heap.size w wr)) (fun _ i _ => n - (intOf i).toNat)
  case atStart => exact ⟨0, 0, by omega, rfl, rfl, Lib.hid (Below.refl _ _)⟩
  case round =>
    obtain ⟨z, k, hk, rfl, rfl, hbel⟩ := hrel
    by_cases hlt : k < n
    · have t1 : decide ((k : Int) < (n : Int)) = true := by simp; omega
      by_cases hz : z ≤ 900
      · have t2 : decide (z ≤ 900) = true := decide_eq_true hz
        have hkl : k < l.length := by have := HL.out; omega
        rcases HA.out with rfl | ⟨b1, o1, rfl, h1⟩
        · simp at hkl
        have c1 := (hbel.out.cell (block_lt_of_cell (h1 k hkl))).trans (h1 k hkl)
        generalize l[k] = x at c1
        have kl : (k : Int) < (n : Int) := by omega
        clear h1 hkl
        go_wp2
        go_roundw
        case rel => exact ⟨_, k + 1, by omega, rfl, by go_num, hbel⟩
        case measure => simp [intOf]; omega
      · have t2 : decide (z ≤ 900) = false := decide_eq_false hz
        go_wp2
        go_ret
        exact ⟨⟨_, rfl⟩, hbel.out⟩
    · have t1 : decide ((k : Int) < (n : Int)) = false := by simp; omega
      go_wp2
      go_ret
      exact ⟨⟨_, rfl⟩, hbel.out⟩


/-- of a row whose first texts are short, so many at most -/
def Few (l : List ByteArray) : Prop := ∀ m, m ≤ l.length → (∀ j (h : j < l.length), j < m → l[j].size ≤ 13) → m ≤ 901
theorem Few.of {l : List ByteArray} (h : l.length ≤ 901) : Few l := fun m hm _ => by omega
def SzR (l : List ByteArray) (k : Nat) (z : Int) : Prop := ((∀ j (h : j < l.length), j < k → l[j].size ≤ 13) → (k : Int) ≤ z) ∧ ∀ m, m ≤ k → (∀ j (h : j < l.length), j < m → l[j].size ≤ 13) → m ≤ 901
theorem SzR.next {l : List ByteArray} {k : Nat} {z : Int} (h : SzR l k z) (hz : z ≤ 900) (hk : k < l.length) : SzR l (k + 1) (wrap64 (wrap64 (z + 1) + (l[k].size : Int))) := by
  obtain ⟨h1, h2⟩ := h
  constructor
  · intro hs
    have h3 := h1 fun j hj g => hs j hj (by omega)
    have h4 := hs k hk (by omega)
    rw [IntWalk.wrap64_in (z + 1) ⟨by omega, by omega⟩, IntWalk.wrap64_in _ ⟨by omega, by omega⟩]
    omega
  · intro m hm hs
    by_cases e : m ≤ k
    · exact h2 m e hs
    · have h3 := h1 fun j hj g => hs j hj (by omega)
      omega
theorem SzR.few {l : List ByteArray} {k : Nat} {z : Int} (h : SzR l k z) (hk : k = l.length) : Few l := fun m hm hs => h.2 m (by omega) hs

set_option maxRecDepth 100000 in
set_option maxHeartbeats 1000000 in
theorem size_few (l : List ByteArray) (a : Option Addr) (c n : Nat) (w : World) (ha : Rs w a l) (hl : l.length = n) :
    Calls Try.prog 7 #[.slice a n c, .int .i64 900] w fun e w' => (∃ z : Int, e = .returned (.int .i64 z) ∧ (z ≤ 900 → Few l)) ∧ Below w.heap.size w w' := by
  have hm1 := ha.2.1
  unfold maxLen at hm1
  have n1 : n ≤ 9223372036854775807 := by omega
  have HA := Lib.hid ha.2.2
  have HL := Lib.hid hl
  clear ha hl hm1
  go_enter Try.func7, Try.ntmps7
  go_wp2_with fail
  go_loopw [5, 6] (fun x i wr => ∃ z : Int, ∃ k : Nat, k ≤ n ∧ x = .int .i64 z ∧ i = .int .i64 k ∧ Hid (Below w.heap.size w wr) ∧ Hid (SzR l k z)) (fun _ i _ => n - (intOf i).toNat)
  case atStart => exact ⟨0, 0, by omega, rfl, rfl, Lib.hid (Below.refl _ _), Lib.hid ⟨fun _ => by decide, fun m hm _ => by omega⟩⟩
  case round =>
    obtain ⟨z, k, hk, rfl, rfl, hbel, hS⟩ := hrel
    by_cases hlt : k < n
    · have t1 : decide ((k : Int) < (n : Int)) = true := by simp; omega
      by_cases hz : z ≤ 900
      · have t2 : decide (z ≤ 900) = true := decide_eq_true hz
        have hkl : k < l.length := by have := HL.out; omega
        rcases HA.out with rfl | ⟨b1, o1, rfl, h1⟩
        · simp at hkl
        have c1 := (hbel.out.cell (block_lt_of_cell (h1 k hkl))).trans (h1 k hkl)
        have HN := Lib.hid (hS.out.next hz hkl)
        generalize l[k] = x at c1 HN
        have kl : (k : Int) < (n : Int) := by omega
        clear h1 hkl
        go_wp2
        go_roundw
        case rel => exact ⟨_, k + 1, by omega, rfl, by go_num, hbel, HN⟩
        case measure => simp [intOf]; omega
      · have t2 : decide (z ≤ 900) = false := decide_eq_false hz
        have HZ := Lib.hid hz
        go_wp2
        go_ret
        exact ⟨⟨_, rfl, fun h => by have := HZ.out; omega⟩, hbel.out⟩
    · have t1 : decide ((k : Int) < (n : Int)) = false := by simp; omega
      have HF := Lib.hid (hS.out.few (by have := HL.out; omega))
      go_wp2
      go_ret
      exact ⟨⟨_, rfl, fun _ => HF.out⟩, hbel.out⟩
end Go.Proofs.Ytkhfobliclfhcaa
