/-
  Operations written, as the document tells it; how many there are; the law's rows of them. Nothing of one statement alone stands here.
-/
import Derived.Test.YthngpmiclbbpnaaGreatHistB
namespace Go.Proofs.YthngpmiclbbpnaaGreat
open Go.RowKit Crcm Tagm Go.ChangeShapes

/-- an operation of a row that came in, at a later world: its cells, and its bytes at the first -/
theorem HR.both {w W : World} {a : Option Addr} {L : List Ho} (h : HR w a L) (hb : Below w.heap.size w W) {k : Nat} (hk : k < L.length) : ∃ b off A c, a = some ⟨b, off, none⟩ ∧
    (W.cell? ⟨b, off + k * 7, none⟩ = some (.int .i64 L[k]!.kind) ∧ W.cell? ⟨b, off + k * 7 + 1, none⟩ = some (.string L[k]!.path) ∧ W.cell? ⟨b, off + k * 7 + 2, none⟩ = some (.string L[k]!.to) ∧ W.cell? ⟨b, off + k * 7 + 3, none⟩ = some (.int .i64 L[k]!.handle) ∧
      W.cell? ⟨b, off + k * 7 + 4, none⟩ = some (.int .i64 L[k]!.n) ∧ W.cell? ⟨b, off + k * 7 + 5, none⟩ = some (.int .i64 L[k]!.off) ∧ W.cell? ⟨b, off + k * 7 + 6, none⟩ = some (.slice A L[k]!.b.length c)) ∧ L[k]!.b.length ≤ c ∧ Rw w A L[k]!.b := by
  obtain ⟨b, off, rfl, h0, h1, h2, h3, h4, h5, A, c, h6, h7, h8⟩ := h.at hk
  have hc : ∀ {p : Addr} {v : Value}, w.cell? p = some v → W.cell? p = some v := fun {p v} g => (hb.cell (block_lt_of_cell g)).trans g
  exact ⟨b, off, A, c, rfl, ⟨hc h0, hc h1, hc h2, hc h3, hc h4, hc h5, hc h6⟩, h7, h8⟩
theorem HR.bw {w : World} {a : Option Addr} {L : List Ho} (h : HR w a L) : ∀ o ∈ L, Bw o := by
  intro o ho
  obtain ⟨j, hj, rfl⟩ := List.getElem_of_mem ho
  obtain ⟨_, _, -, -, -, -, -, -, -, _, _, -, -, hr⟩ := h.at hj
  rw [getElem!_pos L j hj] at hr
  exact hr.1

end Go.Proofs.YthngpmiclbbpnaaGreat
