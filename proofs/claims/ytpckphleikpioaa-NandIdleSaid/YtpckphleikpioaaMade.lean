/-
  A chip behind some operations, and the document's: the law's call made.
-/
import Derived.Test.YtpckphleikpioaaPlays
import Derived.Test.YtpckphleikpioaaRefMake
namespace Go.Proofs.Ytpckphleikpioaa
open Go.RowKit Crcm Tagm Go.ChangeShapes

/-- an operation's value -/
theorem OzAt.vals {w : World} {b off : Nat} {y : Oz} (h : OzAt w b off y) : ∃ A3 c3 A4 c4, w.cell? ⟨b, off + 3, none⟩ = some (.slice A3 y.b.length c3) ∧ Rw w A3 y.b ∧ w.cell? ⟨b, off + 4, none⟩ = some (.slice A4 y.fl.length c4) ∧ FlAt w (fun _ => False) (.slice A4 y.fl.length c4) y.fl := by
  obtain ⟨-, -, -, ⟨v3, h3, A3, c3, rfl, -, -, hr⟩, ⟨v4, h4, A4, c4, rfl, -, -, hf, -⟩⟩ := h
  exact ⟨A3, c3, A4, c4, h3, hr, h4, hf⟩
theorem Rw.outX {w : World} {X : Nat → Prop} {A : Option Addr} {l : List Int} (h : Rw w A l) (hX : ∀ b, X b → w.heap.size ≤ b) : RwX w X A l := by
  refine ⟨h, fun b off s e hl g => ?_⟩
  rcases h.2.2 with h3 | ⟨b', off', e', h3⟩
  · exact hl h3
  · rw [e'] at e
    injection e with e
    injection e with e1 e2 e3
    subst e1
    have hp : 0 < l.length := by
      cases l with
      | nil => exact absurd rfl hl
      | cons x r => simp
    have h1 : b' < w.heap.size := block_lt_of_cell (h3 0 hp)
    have h2 := hX _ g
    omega
theorem FlAt.outX {w : World} {X : Nat → Prop} {v : Value} {fl : List Fl} (h : FlAt w (fun _ => False) v fl) (hX : ∀ b, X b → w.heap.size ≤ b) : FlAt w X v fl := by
  obtain ⟨a, cap, h1, h2, h3⟩ := h
  refine ⟨a, cap, h1, h2, ?_⟩
  by_cases h0 : fl = []
  · exact .inl h0
  rcases h3 with h3 | ⟨b, off, rfl, hx, h3⟩
  · exact absurd h3 h0
  have hp : 0 < fl.length := by
    cases fl with
    | nil => exact absurd rfl h0
    | cons x r => simp
  refine .inr ⟨b, off, rfl, fun g => ?_, fun j hj => ?_⟩
  · have h1 : b < w.heap.size := block_lt_of_cell (h3 0 hp).1
    have h2 := hX _ g
    omega
  · obtain ⟨c0, c1, da, dc, c2, hr, hl⟩ := h3 j hj
    exact ⟨c0, c1, da, dc, c2, hr.1.outX hX, hl⟩
/-- what came in, at a later world -/
theorem RwX.belowX {w w' : World} {X : Nat → Prop} {A : Option Addr} {l : List Int} (h : RwX w X A l) (hb : Below w.heap.size w w') : RwX w' X A l := h.kp (F := fun _ => False) (Kp.of_below hb) (fun _ g => g.elim)
theorem FlAt.belowX {w w' : World} {X : Nat → Prop} {v : Value} {fl : List Fl} (h : FlAt w X v fl) (hb : Below w.heap.size w w') : FlAt w' X v fl := h.kp (F := fun _ => False) (Kp.of_below hb) (fun _ g => g.elim)

/-- both chips made anew -/
theorem Tw.new {w w1 w2 : World} {nb np sz : Nat} {o : Own} {r : Rb} {bl : List Int} (hc : ChAt w1 (o.F nb) o (newC nb np sz bl)) (ho : ∀ b, o.F nb b → w.heap.size ≤ b) (hb1 : w.heap.size ≤ w1.heap.size) (hr : RcAt w2 (fun b => o.F nb b ∨ r.F b) r nb np sz false) (hrf : ∀ b, r.F b → w1.heap.size ≤ b) (hb : Below w1.heap.size w1 w2) :
    Tw w2 (fun b => o.F nb b ∨ r.F b) o (newC nb np sz bl) r ∧ ∀ b, (o.F nb b ∨ r.F b) → w.heap.size ≤ b := by
  have hold := hc.old
  refine ⟨⟨hc.widen hb (fun b h => h.imp id (hrf b)) hr.old (fun b h => .inl h), ⟨false, hr⟩, fun b h g => ?_⟩, fun b h => ?_⟩
  · have h1 := hold b h
    have h2 := hrf b g
    omega
  · rcases h with h | h
    · exact ho b h
    · have := hrf b h; omega

end Go.Proofs.Ytpckphleikpioaa
