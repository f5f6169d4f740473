/-
  A path split into all but its last name, and that one: the program's call Split and the document's. Nothing of one statement alone stands here.
-/
import Derived.Test.YtkhfobliclfhcaaPathJoinM
namespace Go.Proofs.Ytkhfobliclfhcaa
open Go.RowKit Go.ChangeShapes

/-- what a call of Split answers -/
def SpP (s : ByteArray) (w : World) (r : Ending) (w' : World) : Prop :=
  ((psE s = 0 ∧ ∃ l x, parts s = l ++ [x] ∧ ∃ a k c, r = .returned (.tuple #[.slice a k c, .string x, .int .i64 0]) ∧ Rs w' a l ∧ l.length = k) ∨
   (psE s = 0 ∧ parts s = [] ∧ r = .returned (.tuple #[.slice none 0 0, .string ⟨#[]⟩, .int .i64 72])) ∨
   (psE s ≠ 0 ∧ r = .returned (.tuple #[.slice none 0 0, .string ⟨#[]⟩, .int .i64 (psE s)]))) ∧ Below w.heap.size w w'

theorem last_of {l : List ByteArray} {k : Nat} (h : l.length = k + 1) : ∃ m x, l = m ++ [x] ∧ m.length = k := by
  have hne : l ≠ [] := fun e => by rw [e] at h; cases h
  refine ⟨l.dropLast, l.getLast hne, (List.dropLast_concat_getLast hne).symm, ?_⟩
  rw [List.length_dropLast, h]; rfl
theorem Rs.parted {w : World} {a : Option Addr} {m : List ByteArray} {x : ByteArray} (h : Rs w a (m ++ [x])) : Rs w a m ∧ ∃ b off, a = some ⟨b, off, none⟩ ∧ w.cell? ⟨b, off + m.length, none⟩ = some (.string x) := by
  constructor
  · have := h.take m.length
    rw [List.take_left] at this
    exact this
  · rcases h.2.2 with e | ⟨b, off, rfl, hc⟩
    · simp at e
    · refine ⟨b, off, rfl, ?_⟩
      have := hc m.length (by simp)
      rw [this]
      simp

set_option maxRecDepth 100000 in
set_option maxHeartbeats 1000000 in
theorem split_any (s : ByteArray) (w : World) : Calls Try.prog 9 #[.string s] w (SpP s w) := by
  have HP := Lib.hid (parse_any s w)
  go_enter Try.func9, Try.ntmps9
  go_wp2_with fail
  refine HP.out.mono ?_
  rintro r w1 ⟨⟨h0, a, k, c, rfl, hrs, hlen, hkc⟩ | ⟨h0, rfl⟩, hb1⟩
  · have HB := Lib.hid hb1
    have H0 := Lib.hid h0
    clear hb1 h0
    cases k with
    | zero =>
      have HE := Lib.hid (List.eq_nil_of_length_eq_zero hlen)
      clear hrs hlen
      go_wp2
      exact bodyPost_ret (v := .tuple #[.slice none 0 0, .string ⟨#[]⟩, .int .i64 72]) (by simp [results, Try.results9, go_sem]) rfl ⟨.inr (.inl ⟨H0.out, HE.out, rfl⟩), HB.out⟩
    | succ k =>
      obtain ⟨m, x, hmx, hm⟩ := last_of hlen
      rw [hmx] at hrs
      have hk1 : k ≤ 9223372036854775806 := by have := hrs.2.1; rw [List.length_append, hm] at this; unfold maxLen at this; simp at this; omega
      obtain ⟨hrm, b, off, rfl, hcell⟩ := hrs.parted
      rw [hm] at hcell
      have HR := Lib.hid hrm
      have HM := Lib.hid hmx
      have HL := Lib.hid hm
      have e1 := fun mm : Later w1 => later_cell mm hcell
      have s1 : (((k + 1 : Nat) : Int) - 1) = (k : Int) := by omega
      have s3 : (k : Int) < ((k + 1 : Nat) : Int) := by omega
      have s4 : (k : Int) ≤ (c : Int) := by omega
      have s5 : (0 : Int) ≤ (k : Int) := by omega
      clear hrm hmx hm hcell hlen hrs
      go_wp2_with fail
      refine wp_region_later (by kernel_rfl) (by kernel_rfl) ?_
      repeat (go_big_quiet_step (fail))
      refine wpQuiet_nil ?_
      rintro _ ⟨mm, rfl⟩
      go_wp2
      exact bodyPost_ret (v := .tuple #[.slice (some ⟨b, off, none⟩) k c, .string x, .int .i64 0]) (by simp [results, Try.results9, go_sem]) rfl ⟨.inl ⟨H0.out, m, x, HM.out, _, k, c, rfl, HR.out.below mm.bel, HL.out⟩, HB.out.trans (mm.bel.mono HB.out.size)⟩
  · have HB := Lib.hid hb1
    generalize hps : psE s = x at h0 ⊢
    have HX := Lib.hid hps
    have H0 := Lib.hid h0
    have t0 : (x != 0) = true := bne_iff_ne.2 h0
    clear hb1 hps h0
    go_wp2
    exact bodyPost_ret (v := .tuple #[.slice none 0 0, .string ⟨#[]⟩, .int .i64 x]) (by simp [results, Try.results9, go_sem]) rfl ⟨.inr (.inr ⟨by rw [HX.out]; exact H0.out, by rw [HX.out]⟩), HB.out⟩

set_option maxRecDepth 100000 in
set_option maxHeartbeats 1000000 in
theorem refSplit_any (s : ByteArray) (w : World) : Calls Try.prog 10 #[.string s] w (SpP s w) := by
  have HP := Lib.hid (refParse_any s w)
  go_enter Try.func10, Try.ntmps10
  go_wp2_with fail
  refine HP.out.mono ?_
  rintro r w1 ⟨⟨h0, a, k, c, rfl, hrs, hlen, hkc⟩ | ⟨h0, rfl⟩, hb1⟩
  · have HB := Lib.hid hb1
    have H0 := Lib.hid h0
    clear hb1 h0
    cases k with
    | zero =>
      have HE := Lib.hid (List.eq_nil_of_length_eq_zero hlen)
      clear hrs hlen
      go_wp2
      exact bodyPost_ret (v := .tuple #[.slice none 0 0, .string ⟨#[]⟩, .int .i64 72]) (by simp [results, Try.results10, go_sem]) rfl ⟨.inr (.inl ⟨H0.out, HE.out, rfl⟩), HB.out⟩
    | succ k =>
      obtain ⟨m, x, hmx, hm⟩ := last_of hlen
      rw [hmx] at hrs
      have hk1 : k ≤ 9223372036854775806 := by have := hrs.2.1; rw [List.length_append, hm] at this; unfold maxLen at this; simp at this; omega
      obtain ⟨hrm, b, off, rfl, hcell⟩ := hrs.parted
      rw [hm] at hcell
      have HR := Lib.hid hrm
      have HM := Lib.hid hmx
      have HL := Lib.hid hm
      have e1 := fun mm : Later w1 => later_cell mm hcell
      have s1 : (((k + 1 : Nat) : Int) - 1) = (k : Int) := by omega
      have s3 : (k : Int) < ((k + 1 : Nat) : Int) := by omega
      have s4 : (k : Int) ≤ (c : Int) := by omega
      have s5 : (0 : Int) ≤ (k : Int) := by omega
      clear hrm hmx hm hcell hlen hrs
      go_wp2_with fail
      refine wp_region_later (by kernel_rfl) (by kernel_rfl) ?_
      repeat (go_big_quiet_step (fail))
      refine wpQuiet_nil ?_
      rintro _ ⟨mm, rfl⟩
      go_wp2
      exact bodyPost_ret (v := .tuple #[.slice (some ⟨b, off, none⟩) k c, .string x, .int .i64 0]) (by simp [results, Try.results10, go_sem]) rfl ⟨.inl ⟨H0.out, m, x, HM.out, _, k, c, rfl, HR.out.below mm.bel, HL.out⟩, HB.out.trans (mm.bel.mono HB.out.size)⟩
  · have HB := Lib.hid hb1
    generalize hps : psE s = x at h0 ⊢
    have HX := Lib.hid hps
    have H0 := Lib.hid h0
    have t0 : (x != 0) = true := bne_iff_ne.2 h0
    clear hb1 hps h0
    go_wp2
    exact bodyPost_ret (v := .tuple #[.slice none 0 0, .string ⟨#[]⟩, .int .i64 x]) (by simp [results, Try.results10, go_sem]) rfl ⟨.inr (.inr ⟨by rw [HX.out]; exact H0.out, by rw [HX.out]⟩), HB.out⟩
end Go.Proofs.Ytkhfobliclfhcaa
