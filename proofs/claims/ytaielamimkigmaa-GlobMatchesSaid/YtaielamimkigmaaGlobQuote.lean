/-
  A name is quoted: the program's Quote.
-/
import Derived.Test.YtaielamimkigmaaGlobBld
namespace Globm
/-- is it a byte that is quoted? -/
def qm (c : UInt8) : Bool := c == 63 || (c == 42 || c == 91)
def q1 (c : UInt8) : List UInt8 := if qm c then [91, c, 93] else [c]
def qtl (l : List UInt8) : List UInt8 := l.flatMap q1
theorem qtl_snoc (l : List UInt8) (c : UInt8) : qtl (l ++ [c]) = qtl l ++ q1 c := by simp [qtl]
theorem q1_len (c : UInt8) : (q1 c).length ≤ 3 := by unfold q1; split <;> simp
theorem qtl_len : ∀ (l : List UInt8), (qtl l).length ≤ 3 * l.length
  | [] => by simp [qtl]
  | c :: l => by
    have h1 := qtl_len l
    have h2 := q1_len c
    show (q1 c ++ qtl l).length ≤ _
    rw [List.length_append, List.length_cons]
    omega
theorem qm_eq {c : UInt8} : qm c = true ↔ c.toNat = 63 ∨ c.toNat = 42 ∨ c.toNat = 91 := by
  unfold qm
  simp only [Bool.or_eq_true, beq_iff_eq, ← UInt8.toNat_inj]
  rfl
end Globm
namespace Go.Proofs.Ytaielamimkigmaa
open Go.RowKit Go.ChangeShapes Globm Go.ChangeMaps

def qB (s : ByteArray) : ByteArray := ⟨(qtl s.data.toList).toArray⟩
theorem take_byte {s : ByteArray} {k : Nat} (h : k < s.size) : s.data.toList.take (k + 1) = s.data.toList.take k ++ [s[k]] := by
  rw [List.take_add_one, List.getElem?_eq_getElem (by simpa using h)]
  rfl

set_option maxRecDepth 100000 in
set_option maxHeartbeats 2000000 in
theorem quote_any (s : ByteArray) (w : World) (hs : s.size ≤ 1000) :
    Calls Try.prog 21 #[.string s] w fun e w' => e = .returned (.string (qB s)) ∧ Below w.heap.size w w' := by
  have HW := Lib.hid (fun (l : List UInt8) (c : UInt8) (w' : World) (h : Lib.IsBuilder 66 5 w.heap.size w.heap.size (Lib.byteCells l) w') (hl : l.length + 1 ≤ 1000000) (hb : w.heap.size ≤ w'.heap.size) => bwrite_any w.heap.size w.heap.size l c w' h hl hb)
  have HSt := Lib.hid (fun (l : List UInt8) (w' : World) (h : Lib.IsBuilder 66 5 w.heap.size w.heap.size (Lib.byteCells l) w') (hb : w.heap.size ≤ w'.heap.size) => Try.Builder_String_any w.heap.size w.heap.size l w' h hb)
  have F0 : Hid (Lib.IsBuilder 66 5 w.heap.size w.heap.size (Lib.byteCells (qtl (s.data.toList.take 0))) (w.alloc (.cells #[.pointer none, .slice none 0 0] 66))) := Lib.hid (Lib.fresh_isBuilder _ _ w)
  have B0 : Hid (Below w.heap.size w (w.alloc (.cells #[.pointer none, .slice none 0 0] 66))) := Lib.hid ((Below.refl _ _).alloc (Nat.le_refl _) _)
  have hsI : (s.size : Int) ≤ 1000 := by omega
  go_enter Try.func21, Try.ntmps21
  go_wp2_with fail
  go_loopw [7] (fun i wr => ∃ k : Nat, i = .int .i64 k ∧ k ≤ s.size ∧ Hid (Lib.IsBuilder 66 5 w.heap.size w.heap.size (Lib.byteCells (qtl (s.data.toList.take k))) wr) ∧ Hid (Below w.heap.size w wr)) (fun i _ => s.size - (intOf i).toNat)
  case atStart => exact ⟨0, rfl, by omega, F0, B0⟩
  case round =>
    obtain ⟨k, rfl, hk, hb, hB⟩ := hrel
    by_cases hlt : k < s.size
    · have hkI : (k : Int) < (s.size : Int) := by omega
      have hlen : (qtl (s.data.toList.take k)).length ≤ 3000 := by
        have := qtl_len (s.data.toList.take k)
        rw [List.length_take] at this
        omega
      have HT := Lib.hid (take_byte hlt)
      have hlt8 : s[k].toNat < 256 := UInt8.toNat_lt _
      obtain ⟨l, hl⟩ : ∃ l, qtl (s.data.toList.take k) = l := ⟨_, rfl⟩
      rw [hl] at hlen hb
      have HL := Lib.hid hl
      clear hl
      cases hq : qm s[k] with
      | false =>
        have hn : ¬ (s[k].toNat = 63 ∨ s[k].toNat = 42 ∨ s[k].toNat = 91) := fun h => by rw [qm_eq.2 h] at hq; cases hq
        have e1 : ((s[k].toNat : Int) == 63) = false := by simp; omega
        have e2 : ((s[k].toNat : Int) == 42) = false := by simp; omega
        have e3 : ((s[k].toNat : Int) == 91) = false := by simp; omega
        have HE : Hid (qtl (s.data.toList.take (k + 1)) = l ++ [s[k]]) := Lib.hid (by rw [HT.out, qtl_snoc, HL.out]; unfold q1; rw [hq]; rfl)
        have H1 := Lib.hid (HW.out l s[k] wr hb.out (by omega) hB.out.size)
        clear hn hq hlt8
        go_wp2_with fail
        refine H1.out.mono ?_
        rintro e w2 ⟨rfl, hbb, hbe⟩
        have HB2 := Lib.hid (hB.out.trans hbe)
        rw [← HE.out] at hbb
        have HBB := Lib.hid (show Lib.IsBuilder _ _ _ _ _ _ from .inr hbb)
        clear hbb hbe
        go_wp2
        go_roundw
        case rel => exact ⟨k + 1, by go_num, by omega, HBB, HB2⟩
        case measure => simp [intOf]; omega
      | true =>
        have hn := qm_eq.1 hq
        have HE : Hid (qtl (s.data.toList.take (k + 1)) = l ++ [91] ++ [s[k]] ++ [93]) := Lib.hid (by rw [HT.out, qtl_snoc, HL.out]; unfold q1; rw [hq]; simp)
        have H1 : Hid (Calls Try.prog 39 #[.pointer (some ⟨w.heap.size, 0, none⟩), .int .u8 91] wr fun e w' => e = .returned .nilIface ∧ Lib.BuilderAt 66 5 w.heap.size w.heap.size (.pointer (some ⟨w.heap.size, 0, none⟩)) (Lib.byteCells (l ++ [91])) w' ∧ Below w.heap.size wr w') := Lib.hid (HW.out l 91 wr hb.out (by omega) hB.out.size)
        have H2 := Lib.hid (fun w' (h : Lib.IsBuilder 66 5 w.heap.size w.heap.size (Lib.byteCells (l ++ [91])) w') hb => HW.out (l ++ [91]) s[k] w' h (by simp; omega) hb)
        have H3 : Hid (∀ w' (h : Lib.IsBuilder 66 5 w.heap.size w.heap.size (Lib.byteCells (l ++ [91] ++ [s[k]])) w') (hb : w.heap.size ≤ w'.heap.size), Calls Try.prog 39 #[.pointer (some ⟨w.heap.size, 0, none⟩), .int .u8 93] w' fun e w'' => e = .returned .nilIface ∧ Lib.BuilderAt 66 5 w.heap.size w.heap.size (.pointer (some ⟨w.heap.size, 0, none⟩)) (Lib.byteCells (l ++ [91] ++ [s[k]] ++ [93])) w'' ∧ Below w.heap.size w' w'') := Lib.hid (fun w' h hb => HW.out (l ++ [91] ++ [s[k]]) 93 w' h (by simp; omega) hb)
        clear hq hlt8
        rcases hn with hn | hn | hn
        · have e1 : ((s[k].toNat : Int) == 63) = true := by rw [hn]; rfl
          clear hn
          go_wp2_with fail
          refine H1.out.mono ?_
          rintro e w2 ⟨rfl, hbb, hbe⟩
          have HB2 := Lib.hid (hB.out.trans hbe)
          have HBB := Lib.hid (show Lib.IsBuilder _ _ _ _ _ _ from .inr hbb)
          clear hbb hbe
          go_wp2_with fail
          refine (H2.out w2 HBB.out HB2.out.size).mono ?_
          rintro e w3 ⟨rfl, hbb, hbe⟩
          have HB3 := Lib.hid (HB2.out.trans hbe)
          have HBB3 := Lib.hid (show Lib.IsBuilder _ _ _ _ _ _ from .inr hbb)
          clear hbb hbe
          go_wp2_with fail
          refine (H3.out w3 HBB3.out HB3.out.size).mono ?_
          rintro e w4 ⟨rfl, hbb, hbe⟩
          have HB4 := Lib.hid (HB3.out.trans hbe)
          rw [← HE.out] at hbb
          have HBB4 := Lib.hid (show Lib.IsBuilder _ _ _ _ _ _ from .inr hbb)
          clear hbb hbe
          go_wp2
          go_roundw
          case rel => exact ⟨k + 1, by go_num, by omega, HBB4, HB4⟩
          case measure => simp [intOf]; omega
        · have e1 : ((s[k].toNat : Int) == 63) = false := by rw [hn]; rfl
          have e2 : ((s[k].toNat : Int) == 42) = true := by rw [hn]; rfl
          clear hn
          go_wp2_with fail
          refine H1.out.mono ?_
          rintro e w2 ⟨rfl, hbb, hbe⟩
          have HB2 := Lib.hid (hB.out.trans hbe)
          have HBB := Lib.hid (show Lib.IsBuilder _ _ _ _ _ _ from .inr hbb)
          clear hbb hbe
          go_wp2_with fail
          refine (H2.out w2 HBB.out HB2.out.size).mono ?_
          rintro e w3 ⟨rfl, hbb, hbe⟩
          have HB3 := Lib.hid (HB2.out.trans hbe)
          have HBB3 := Lib.hid (show Lib.IsBuilder _ _ _ _ _ _ from .inr hbb)
          clear hbb hbe
          go_wp2_with fail
          refine (H3.out w3 HBB3.out HB3.out.size).mono ?_
          rintro e w4 ⟨rfl, hbb, hbe⟩
          have HB4 := Lib.hid (HB3.out.trans hbe)
          rw [← HE.out] at hbb
          have HBB4 := Lib.hid (show Lib.IsBuilder _ _ _ _ _ _ from .inr hbb)
          clear hbb hbe
          go_wp2
          go_roundw
          case rel => exact ⟨k + 1, by go_num, by omega, HBB4, HB4⟩
          case measure => simp [intOf]; omega
        · have e1 : ((s[k].toNat : Int) == 63) = false := by rw [hn]; rfl
          have e2 : ((s[k].toNat : Int) == 42) = false := by rw [hn]; rfl
          have e3 : ((s[k].toNat : Int) == 91) = true := by rw [hn]; rfl
          clear hn
          go_wp2_with fail
          refine H1.out.mono ?_
          rintro e w2 ⟨rfl, hbb, hbe⟩
          have HB2 := Lib.hid (hB.out.trans hbe)
          have HBB := Lib.hid (show Lib.IsBuilder _ _ _ _ _ _ from .inr hbb)
          clear hbb hbe
          go_wp2_with fail
          refine (H2.out w2 HBB.out HB2.out.size).mono ?_
          rintro e w3 ⟨rfl, hbb, hbe⟩
          have HB3 := Lib.hid (HB2.out.trans hbe)
          have HBB3 := Lib.hid (show Lib.IsBuilder _ _ _ _ _ _ from .inr hbb)
          clear hbb hbe
          go_wp2_with fail
          refine (H3.out w3 HBB3.out HB3.out.size).mono ?_
          rintro e w4 ⟨rfl, hbb, hbe⟩
          have HB4 := Lib.hid (HB3.out.trans hbe)
          rw [← HE.out] at hbb
          have HBB4 := Lib.hid (show Lib.IsBuilder _ _ _ _ _ _ from .inr hbb)
          clear hbb hbe
          go_wp2
          go_roundw
          case rel => exact ⟨k + 1, by go_num, by omega, HBB4, HB4⟩
          case measure => simp [intOf]; omega
    · have hks : k = s.size := by omega
      have hks2 : s.data.toList.take k = s.data.toList := List.take_of_length_le (by rw [hks]; simp)
      rw [hks2] at hb
      have H1 := Lib.hid (HSt.out _ wr hb.out hB.out.size)
      have hkI : ¬ (k : Int) < (s.size : Int) := by omega
      clear hks hks2 hlt
      go_wp2_with fail
      refine H1.out.mono ?_
      rintro e w2 ⟨rfl, hbe⟩
      go_wp2
      go_ret
      exact ⟨rfl, hB.out.trans hbe⟩
end Go.Proofs.Ytaielamimkigmaa
