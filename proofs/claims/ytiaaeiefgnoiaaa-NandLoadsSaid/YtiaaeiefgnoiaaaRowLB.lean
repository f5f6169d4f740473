/-
  A slice of slices of bytes that came in: what it reads as. Nothing of one statement alone stands here.
-/
import Derived.Test.YtiaaeiefgnoiaaaBytes
import Derived.Deep.Slices
import Derived.Deep.Grids
namespace Go.Proofs.Ytiaaeiefgnoiaaa
open Go.RowKit Crcm Go.ChangeShapes

/-- what is told of a slice of slices of bytes that came in -/
def RowLB (w : World) (a : Option Addr) (len cap : Nat) : Prop :=
  (a = none ∧ len = 0 ∧ cap = 0) ∨ ∃ ad, a = some ad ∧ len ≤ cap ∧ cap ≤ maxLen ∧ ∀ j, j < len → ∃ A n c z, w.cell? (ad.add j) = some (.slice A n c) ∧ Row8 w A n c z
/-- rows of bytes where a slice says that they are -/
def Rl (w : World) (a : Option Addr) (ls : List (List Int)) : Prop :=
  ls = [] ∨ ∃ b off, a = some ⟨b, off, none⟩ ∧ ∀ j, j < ls.length → ∃ A c, w.cell? ⟨b, off + j, none⟩ = some (.slice A ls[j]!.length c) ∧ ls[j]!.length ≤ c ∧ Rw w A ls[j]!
theorem choose_rows (m : Nat) (p : Nat → List Int → Prop) (h : ∀ i, i < m → ∃ x, p i x) : ∃ l : List (List Int), l.length = m ∧ ∀ i, i < m → p i l[i]! := by
  obtain ⟨f, hf⟩ := Go.Deep.choose_lt h
  refine ⟨(List.range m).map f, by simp, fun i hi => ?_⟩
  rw [getElem!_pos _ _ (by simpa using hi)]
  simpa using hf i hi
theorem RowLB.rl {w : World} {a : Option Addr} {len cap : Nat} (h : RowLB w a len cap) : ∃ ls : List (List Int), ls.length = len ∧ len ≤ cap ∧ cap ≤ maxLen ∧ Rl w a ls := by
  rcases h with ⟨rfl, rfl, rfl⟩ | ⟨ad, rfl, hl, hm, hc⟩
  · exact ⟨[], rfl, Nat.le_refl _, Nat.zero_le _, .inl rfl⟩
  · obtain ⟨ls, hls, hp⟩ := choose_rows len (fun j l => ∃ A c, w.cell? (ad.add j) = some (.slice A l.length c) ∧ l.length ≤ c ∧ Rw w A l) (fun j hj => by
      obtain ⟨A, n, c, z, h1, h2⟩ := hc j hj
      obtain ⟨l, hll, hlc, hr, -⟩ := h2.rw
      exact ⟨l, A, c, by rw [hll]; exact h1, by omega, hr⟩)
    refine ⟨ls, hls, hl, hm, ?_⟩
    by_cases h0 : len = 0
    · left; exact List.eq_nil_of_length_eq_zero (by omega)
    · right
      obtain ⟨b, off, spot⟩ := ad
      obtain ⟨A, c, h1, -⟩ := hp 0 (by omega)
      have hspot : spot = none := by simpa [Addr.add] using World.cell?_spot h1
      subst hspot
      refine ⟨b, off, rfl, fun j hj => ?_⟩
      obtain ⟨A, c, h1, h2, h3⟩ := hp j (by omega)
      rw [Addr.add_lit] at h1
      exact ⟨A, c, h1, h2, h3⟩
theorem Rl.below {w w' : World} {a : Option Addr} {ls : List (List Int)} (h : Rl w a ls) (hb : Below w.heap.size w w') : Rl w' a ls := by
  rcases h with h | ⟨b, off, rfl, h⟩
  · exact .inl h
  · refine .inr ⟨b, off, rfl, fun j hj => ?_⟩
    obtain ⟨A, c, h1, h2, h3⟩ := h j hj
    exact ⟨A, c, (hb.cell (block_lt_of_cell h1)).trans h1, h2, h3.below hb⟩
theorem Rl.at {w : World} {a : Option Addr} {ls : List (List Int)} (h : Rl w a ls) {j : Nat} (hj : j < ls.length) : ∃ b off A c, a = some ⟨b, off, none⟩ ∧ w.cell? ⟨b, off + j, none⟩ = some (.slice A ls[j]!.length c) ∧ ls[j]!.length ≤ c ∧ Rw w A ls[j]! := by
  rcases h with rfl | ⟨b, off, rfl, h⟩
  · simp at hj
  · obtain ⟨A, c, h1, h2, h3⟩ := h j hj
    exact ⟨b, off, A, c, rfl, h1, h2, h3⟩
theorem Try.cellsB8 : Try.prog.cellsOf 27 = 1 := by kernel_rfl

set_option maxRecDepth 100000 in
theorem rowLB_open {H : Type} {enc : TypeId × Value → H} {W : World} {held : Bool} {fuel : Nat} {a : Option Addr} {len cap : Nat} {x : DataW H × List MemPlace}
    (h : DataW.trod enc Try.prog W 0 (fun _ => true) held fuel 24 [.slice a len cap] = some x) : RowLB W a len cap := by
  rcases Go.Deep.open_slice1 Try.underlying24 Try.cellsB8 h with ⟨hcs, _⟩ | ⟨ad, ln, cp, m, n, V, D, Pl, hcs, _, hl, hm, hmm, _, hi⟩
  · simp at hcs
    obtain ⟨rfl, rfl, rfl⟩ := hcs
    exact .inl ⟨rfl, rfl, rfl⟩
  · simp at hcs
    obtain ⟨rfl, rfl, rfl⟩ := hcs
    simp at hmm
    subst hmm
    refine .inr ⟨ad, rfl, hl, hm, fun j hj => ?_⟩
    obtain ⟨h1, h2⟩ := hi j (by omega)
    rcases open_ints Try.underlying27 Try.underlying5 (by kernel_rfl) h2 with ⟨hcs, _⟩ | ⟨x, l, c, zs, hcs, _, hl2, hm2, hz, _, hcell, hwz⟩
    · simp at hcs
      rw [hcs] at h1
      exact ⟨none, 0, 0, [], h1, .inl ⟨rfl, rfl, rfl, rfl⟩⟩
    · simp at hcs
      rw [hcs] at h1
      exact ⟨some x, l, c, zs, h1, .inr ⟨x, rfl, hl2, hm2, by simpa using hz, hcell, hwz⟩⟩

end Go.Proofs.Ytiaaeiefgnoiaaa
