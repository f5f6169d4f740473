/-
  A part over a name: the program's Part.
-/
import Derived.Test.YtaielamimkigmaaGlobRows
namespace Go.Proofs.Ytaielamimkigmaa
open Go.RowKit Go.ChangeShapes Globm Go.ChangeMaps

theorem Rp.of_own {w : World} {base cap : Nat} {A : Option Addr} {l : List (Mk Nat)} (h : w.ownsRow base 75 5 (.slice A l.length cap) l.length (pcl l)) (hl : l.length ≤ 100000) : Rp w A l := by
  refine ⟨hl, ?_⟩
  rcases h.2 with ⟨_, h0⟩ | ⟨g, c, cur, he, _, hg, hn, _, hs, ht⟩
  · exact .inl (List.eq_nil_of_length_eq_zero (by simpa using h0))
  · injection he with e1
    refine .inr ⟨g, 0, e1, fun j x hx => ?_⟩
    have hj : j < l.length := (List.getElem?_eq_some_iff.1 hx).1
    have cell : ∀ c, c < 5 → w.cell? ⟨g, 0 + j * 5 + c, none⟩ = (gpc x)[c]? := fun c hc => by
      rw [Nat.zero_add, cell_of_row w g (j * 5 + c) cur 75 (0, 0) hg, ← pcl_at l j x c hx hc, ← ht, List.getElem?_take_of_lt (by omega), Array.getElem?_toList]
    exact ⟨cell 0 (by decide), cell 1 (by decide), cell 2 (by decide), cell 3 (by decide), cell 4 (by decide)⟩

/-- is it the part for any parts? -/
def isAny (s : ByteArray) : Bool := s.toList == [42, 42]
/-- what a part and a name come to -/
def ptR (s n : ByteArray) : Bool × Int := match marks (by8 s) with
  | none => (false, 31)
  | some l => if isAny s then (false, 31) else (cv l (by8 n) (fun _ => false) 0 0, 0)
set_option maxRecDepth 100000 in
set_option maxHeartbeats 4000000 in
theorem part_any (s n : ByteArray) (w : World) (hn : n.size ≤ 100000) :
    Calls Try.prog 10 #[.string s, .string n] w fun e w' => e = .returned (.tuple #[.bool (ptR s n).1, .int .i64 (ptR s n).2]) ∧ Below w.heap.size w w' := by
  have HR := Lib.hid (read_any s w)
  unfold ptR
  rcases hm : marks (by8 s) with _ | l
  · rw [hm] at HR
    simp only [rdV] at HR
    clear hm
    go_enter Try.func10, Try.ntmps10
    go_wp2_with fail
    refine HR.out.mono ?_
    rintro e w2 ⟨⟨v, rfl, rfl⟩, hb2⟩
    go_wp2_with fail
    go_ret2
    exact ⟨rfl, hb2⟩
  · rw [hm] at HR
    simp only [rdV] at HR
    clear hm
    cases hA : isAny s with
    | true =>
      unfold isAny at hA
      go_enter Try.func10, Try.ntmps10
      go_wp2_with fail
      refine HR.out.mono ?_
      rintro e w2 ⟨⟨v, rfl, A, cap, rfl, ho, h64⟩, hb2⟩
      clear ho
      go_wp2_with fail
      go_ret2
      exact ⟨rfl, hb2⟩
    | false =>
      unfold isAny at hA
      obtain ⟨c, hc⟩ : ∃ c, cv l (by8 n) (fun _ => false) 0 0 = c := ⟨_, rfl⟩
      simp only [hc, Bool.false_eq_true, if_false]
      have HC := Lib.hid hc
      clear hc
      go_enter Try.func10, Try.ntmps10
      go_wp2_with fail
      refine HR.out.mono ?_
      rintro e w2 ⟨⟨v, rfl, A, cap, rfl, ho, h64⟩, hb2⟩
      have HM := Lib.hid (matches_any l A l.length cap n w2 (Rp.of_own ho (by omega)) rfl hn)
      have HB := Lib.hid hb2
      obtain ⟨N, hN⟩ : ∃ N, l.length = N := ⟨_, rfl⟩
      rw [HC.out, hN] at HM
      rw [hN]
      clear ho hb2 hN
      go_wp2_with fail
      refine HM.out.mono ?_
      rintro e w3 ⟨rfl, hb3⟩
      go_wp2_with fail
      go_ret2
      exact ⟨rfl, HB.out.trans (hb3.mono HB.out.size)⟩
end Go.Proofs.Ytaielamimkigmaa
