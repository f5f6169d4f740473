/-
  The translation: a page's bytes made and read, as they lie beside a chip. Nothing of one statement alone stands here.
-/
import Derived.Test.YtbfifppdcmimaaaGreatFtAt
import Derived.Test.YtbfifppdcmimaaaGreatTagRead
namespace Go.Proofs.YtbfifppdcmimaaaGreat
open Go.RowKit Crcm Go.ChangeShapes

theorem own_shapeF {w : World} {base n : Nat} {v : Value} {xs : List Value} {e : TypeId} (h : w.ownsRow base e 1 v n xs) (hn : 0 < n) : ∃ g cap, v = .slice (some ⟨g, 0, none⟩) n cap ∧ base ≤ g ∧ n ≤ cap := by
  rcases h.2 with ⟨_, h0⟩ | ⟨g, cap, cur, h, hg, _, hc, _⟩
  · rw [h0] at h; have := h.1; simp at this; omega
  · exact ⟨g, cap, h, hg, hc⟩
theorem Rw.toX {w : World} {X : Nat → Prop} {g : Nat} {l : List Int} (h : Rw w (some ⟨g, 0, none⟩) l) (hg : ¬ X g) : RwX w X (some ⟨g, 0, none⟩) l :=
  ⟨h, fun b off s e _ q => by injection e with e; injection e with e1; exact hg (e1 ▸ q)⟩
theorem twrite_x {k p s e : Int} {a : Option Addr} {cap n : Nat} {z : List Int} {w : World} {X : Nat → Prop} (h : Tagm.Rt k p s e) (hs : Tagm.Sz n) (hz : Rw w a z) (hl : z.length = n) (hX : ∀ b, X b → b < w.heap.size) :
    Calls Tryz.prog 54 #[tg k p s e, .slice a n cap] w fun r w' => ∃ g cp, r = .returned (.tuple #[.slice (some ⟨g, 0, none⟩) (n + 32) cp, .int .i64 0]) ∧
      RwX w' X (some ⟨g, 0, none⟩) (Tagm.pg k p s e z) ∧ Below w.heap.size w w' := by
  refine (write_len (cap := cap) h hs hz hl).mono ?_
  rintro r w' ⟨v, rfl, ho, hb⟩
  obtain ⟨g, cp, rfl, hg, hc⟩ := own_shapeF ho (by omega)
  refine ⟨g, cp, rfl, ?_, hb⟩
  have hu : ∀ x ∈ Tagm.pg k p s e z, U8 x := by
    intro x hx
    rw [Tagm.pg_bs] at hx
    rcases List.mem_append.1 hx with q | q
    · exact hz.1 x q
    · exact Tagm.bs_U8 k p s e z x q
  obtain ⟨A, c', e1, hR, -, -⟩ := Rw.of_own ho hu
  injection e1 with e1 e2 e3
  subst e1
  exact hR.toX (fun q => by have := hX g q; omega)
end Go.Proofs.YtbfifppdcmimaaaGreat
