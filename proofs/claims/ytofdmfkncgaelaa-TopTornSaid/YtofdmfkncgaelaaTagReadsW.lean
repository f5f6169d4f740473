/-
  The statement on what any bytes are.
-/
import Derived.Test.YtofdmfkncgaelaaTagRefRead
import Derived.Test.YtofdmfkncgaelaaTagLaws
namespace Go.Proofs.Ytofdmfkncgaelaa
open Go.RowKit Crcm Tagm Go.ChangeShapes

theorem refread_any (a : Option Addr) (len cap : Nat) (l : List Int) (w : World) (hr : Rw w a l) (hl : l.length = len) (hcap : len ≤ cap) :
    Calls Try.prog 69 #[.slice a len cap] w (RdA w l) := by
  subst hl
  by_cases hs : Sz ((l.length : Int) - 32)
  · obtain ⟨n, hn⟩ : ∃ n, l.length = n + 32 := ⟨l.length - 32, by unfold Sz at hs; omega⟩
    have hs' : Sz n := by rw [hn] at hs; simpa using hs
    have hn2 : l.length - 32 = n := by omega
    have h := refread_page a n cap l w hs' hr hn (by omega)
    rw [← hn] at h
    refine h.mono ?_
    rintro r w' (⟨he, rfl, hb⟩ | ⟨he, hb, ⟨hv, rfl⟩ | ⟨hv, A, c, rfl, hA⟩⟩)
    · have e : rdF l = 20 := by unfold rdF; rw [if_pos hs, if_pos he]
      exact ⟨hb, .inl ⟨by rw [e]; decide, by rw [e]⟩⟩
    · have e : rdF l = 21 := by unfold rdF; rw [if_pos hs, if_neg he, hn2, if_neg hv]
      exact ⟨hb, .inl ⟨by rw [e]; decide, by rw [e]⟩⟩
    · have e : rdF l = 0 := by unfold rdF; rw [if_pos hs, if_neg he, hn2, if_pos hv]
      exact ⟨hb, .inr ⟨e, n, hn, hs', hv, A, c, rfl, hA⟩⟩
  · refine (refread_arg a l.length cap w hs hr.2.1).mono ?_
    rintro r w' ⟨rfl, hb⟩
    have e : rdF l = 1 := by unfold rdF; rw [if_neg hs]
    exact ⟨hb, .inl ⟨by rw [e]; decide, by rw [e]⟩⟩

end Go.Proofs.Ytofdmfkncgaelaa
