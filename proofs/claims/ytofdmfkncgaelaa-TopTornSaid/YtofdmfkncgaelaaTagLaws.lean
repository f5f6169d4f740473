/-
  The statements' own calls: tags written as the document says; which tag is newer.
-/
import Derived.Test.YtofdmfkncgaelaaTagKnown
import Derived.Test.YtofdmfkncgaelaaLater
namespace Go.Proofs.Ytofdmfkncgaelaa
open Go.RowKit Crcm Tagm Go.ChangeShapes

theorem TgAt.later {w : World} {g : Nat} {k p s e : Int} (h : TgAt w g k p s e) (hg : g < w.heap.size) (n : Later w) : TgAt n.to g k p s e := h.below n.bel hg
theorem Rw.later {w : World} {a : Option Addr} {zs : List Int} (h : Rw w a zs) (n : Later w) : Rw n.to a zs := h.below n.bel

/-- what either Write answers -/
theorem writes (k p s e : Int) (a : Option Addr) (cap : Nat) (z : List Int) (w : World) (hp : 0 ≤ p) (hz : Rw w a z) :
    Calls Try.prog 27 #[tg k p s e, .slice a z.length cap] w fun r w' => Below w.heap.size w w' ∧ ∃ A n c f, r = .returned (.tuple #[.slice A n c, .int .i64 f]) ∧
      ((Rt k p s e ∧ Sz z.length ∧ f = 0 ∧ n = z.length + 32 ∧ n ≤ c ∧ Rw w' A (pg k p s e z)) ∨ (¬ (Rt k p s e ∧ Sz z.length) ∧ f = 1 ∧ n = 0 ∧ A = none ∧ c = 0)) := by
  by_cases h : Rt k p s e ∧ Sz z.length
  · refine (write_ok k p s e a cap z w h.1 h.2 hz).mono ?_
    rintro r w' ⟨v, rfl, hown, hb⟩
    obtain ⟨A, c, rfl, hr, hl, hc⟩ := Rw.of_own hown (pg_U8 _ _ _ _ _ hz.1)
    exact ⟨hb, A, _, c, 0, rfl, .inl ⟨h.1, h.2, rfl, rfl, hc, hr⟩⟩
  · refine (write_no k p s e a cap z w hp h).mono ?_
    rintro r w' ⟨rfl, hb⟩
    exact ⟨hb, none, 0, 0, 1, rfl, .inr ⟨h, rfl, rfl, rfl, rfl⟩⟩
/-- the two answers are the same bytes -/
theorem same_later {W : World} {A B : Option Addr} {n m c d : Nat} {l : List Int} (h1 : Rw W A l) (h2 : Rw W B l) (e1 : l.length = n) (e2 : l.length = m) (q : Later W) :
    Calls Try.prog 14 #[.slice A n c, .slice B m d] q.to fun r w'' => r = .returned (.bool true) ∧ ∃ m : Later W, w'' = m.to := by
  have h := same_any A B c d n m l l q.to (h1.later q) (h2.later q) e1 e2
  rw [decide_eq_true rfl] at h
  exact later_same h

end Go.Proofs.Ytofdmfkncgaelaa
