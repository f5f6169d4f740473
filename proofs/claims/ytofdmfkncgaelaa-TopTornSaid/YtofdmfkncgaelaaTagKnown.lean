/-
  What the fixed calls answer that every statement on tags holds beside itself; what Read answers to any bytes.
-/
import Derived.Test.YtofdmfkncgaelaaTagRead
namespace Go.Proofs.Ytofdmfkncgaelaa
open Go.RowKit Crcm Tagm Go.ChangeShapes

/-- what Read's error is -/
def rdF (l : List Int) : Int := if Sz ((l.length : Int) - 32) then (if Er l then 20 else if Vl (l.length - 32) l then 0 else 21) else 1

/-- what Read answers to any bytes -/
def RdA (w : World) (l : List Int) (r : Ending) (w' : World) : Prop :=
  Below w.heap.size w w' ∧ ((rdF l ≠ 0 ∧ r = .returned (Bad (rdF l))) ∨
    (rdF l = 0 ∧ ∃ n, l.length = n + 32 ∧ Sz n ∧ Vl n l ∧ ∃ A c, r = .returned (.tuple #[tg (tk n l) (tp n l) (ts n l) (te n l), .slice A n c, .int .i64 0]) ∧ Rw w' A (l.take n)))

theorem read_any (a : Option Addr) (len cap : Nat) (l : List Int) (w : World) (hr : Rw w a l) (hl : l.length = len) (hcap : len ≤ cap) :
    Calls Try.prog 29 #[.slice a len cap] w (RdA w l) := by
  subst hl
  by_cases hs : Sz ((l.length : Int) - 32)
  · obtain ⟨n, hn⟩ : ∃ n, l.length = n + 32 := ⟨l.length - 32, by unfold Sz at hs; omega⟩
    have hs' : Sz n := by rw [hn] at hs; simpa using hs
    have hn2 : l.length - 32 = n := by omega
    by_cases he : Er l
    · have h := read_erased a n cap l w hs' hr hn he
      rw [← hn] at h
      refine h.mono ?_
      rintro r w' ⟨rfl, hb⟩
      have e : rdF l = 20 := by unfold rdF; rw [if_pos hs, if_pos he]
      exact ⟨hb, .inl ⟨by rw [e]; decide, by rw [e]⟩⟩
    · have h := read_page a n cap l w hs' hr hn (by omega) he
      rw [← hn] at h
      refine h.mono ?_
      rintro r w' ⟨hb, ⟨hv, rfl⟩ | ⟨hv, A, c, rfl, hA⟩⟩
      · have e : rdF l = 21 := by unfold rdF; rw [if_pos hs, if_neg he, hn2, if_neg hv]
        exact ⟨hb, .inl ⟨by rw [e]; decide, by rw [e]⟩⟩
      · have e : rdF l = 0 := by unfold rdF; rw [if_pos hs, if_neg he, hn2, if_pos hv]
        exact ⟨hb, .inr ⟨e, n, hn, hs', hv, A, c, rfl, hA⟩⟩
  · refine (read_arg a l.length cap w hs hr.2.1).mono ?_
    rintro r w' ⟨rfl, hb⟩
    have e : rdF l = 1 := by unfold rdF; rw [if_neg hs]
    exact ⟨hb, .inl ⟨by rw [e]; decide, by rw [e]⟩⟩

/-- bytes 0 -/
def zz (n : Nat) : List Int := List.replicate n 0
theorem zz_U8 (n : Nat) : ∀ b ∈ zz n, U8 b := by intro b hb; unfold zz at hb; rw [List.mem_replicate] at hb; rw [hb.2]; exact ⟨by decide, by decide⟩
theorem zz_len (n : Nat) : (zz n).length = n := by simp [zz]
theorem zz_own {w : World} {base n : Nat} {v : Value} (h : w.ownsRow base 5 1 v n (madeCells #[Value.int .u8 0] n).toList) : w.ownsRow base 5 1 v n ((zz n).map (Value.int .u8)) := by
  rw [toList_madeCells_one] at h
  have e0 : List.replicate n (Value.int .u8 0) = (zz n).map (Value.int .u8) := by unfold zz; rw [List.map_replicate]
  rw [← e0]
  exact h
theorem zz_bad : rdF (zz 96) = 21 := by
  have h1 : ¬ Er (zz 96) := by intro h; have := h 0 (by simp [zz]); omega
  have h2 : ¬ Vl 64 (zz 96) := by
    intro h
    have := h.1.1
    have e : tk 64 (zz 96) = 0 := by decide
    rw [e] at this
    omega
  unfold rdF
  rw [if_pos (by rw [zz_len]; decide), if_neg h1, zz_len, if_neg h2]

theorem kt : Rt 1 3 5 2 := by decide
theorem kn_64 (z : List Int) (h : z.length = 64) : (pg 1 3 5 2 z).getD 64 0 = 67 ∧ (pg 1 3 5 2 z).getD 68 0 = 3 := by
  rw [pg_flat]
  simp [List.getD_eq_getElem?_getD, h, le]

end Go.Proofs.Ytofdmfkncgaelaa
