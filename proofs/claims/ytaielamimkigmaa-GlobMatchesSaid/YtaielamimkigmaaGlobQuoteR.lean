/-
  A name is quoted: the document's Quote; what quoting brings.
-/
import Derived.Test.YtaielamimkigmaaGlobQuote
namespace Globm
theorem sp_or (c : Nat) : (fun x => (fun _ => false) x || sp c c x) = sp c c := by funext x; simp
theorem sect_quoted {c : Nat} {r : List Nat} (h : c = 63 ∨ c = 42 ∨ c = 91) : sect (c :: 93 :: r) = some (sp c c, r) := by
  unfold sect
  rw [if_neg (by simp; omega), mem_byte (by omega) (by simp), sp_or, mem_end]
theorem fst1_quoted {c : Nat} {r : List Nat} (h : c = 63 ∨ c = 42 ∨ c = 91) : fst1 (91 :: c :: 93 :: r) = some (.one (sp c c), r) := by
  rw [fst1_cons, if_neg (by decide), if_neg (by decide), if_pos rfl, sect_quoted h]; rfl
theorem fst1_plain {c : Nat} {r : List Nat} (h : ¬ (c = 63 ∨ c = 42 ∨ c = 91)) : fst1 (c :: r) = some (.one (sp c c), r) := by
  rw [fst1_cons, if_neg (by omega), if_neg (by omega), if_neg (by omega)]
theorem prs_quoted : ∀ (l : List UInt8) (n : Nat), ((qtl l).map (·.toNat)).length ≤ n → prs n ((qtl l).map (·.toNat)) = some (l.map fun c => Mk.one (sp c.toNat c.toNat))
  | [], n, _ => by show prs n [] = _; rw [prs_nil]; rfl
  | c :: l, n, h => by
    have hq : qtl (c :: l) = q1 c ++ qtl l := rfl
    rw [hq, List.map_append] at h ⊢
    by_cases hc : qm c = true
    · have h1 : q1 c = [91, c, 93] := by unfold q1; rw [if_pos hc]
      rw [h1] at h ⊢
      match n, h with
      | 0, h => simp at h
      | n + 1, h =>
        show prs (n + 1) (91 :: c.toNat :: 93 :: (qtl l).map (·.toNat)) = _
        unfold prs
        rw [fst1_quoted (qm_eq.1 hc)]
        show (prs n _).map _ = _
        rw [prs_quoted l n (by simp at h ⊢; omega)]
        rfl
    · have h1 : q1 c = [c] := by unfold q1; rw [if_neg hc]
      rw [h1] at h ⊢
      match n, h with
      | 0, h => simp at h
      | n + 1, h =>
        show prs (n + 1) (c.toNat :: (qtl l).map (·.toNat)) = _
        unfold prs
        rw [fst1_plain (fun h => hc (qm_eq.2 h))]
        show (prs n _).map _ = _
        rw [prs_quoted l n (by simp at h ⊢; omega)]
        rfl
end Globm
namespace Go.Proofs.Ytaielamimkigmaa
open Go.RowKit Go.ChangeShapes Globm Go.ChangeMaps

theorem qB_size (s : ByteArray) : (qB s).size = (qtl s.data.toList).length := by simp [qB, ByteArray.size]
theorem qB_by8 (s : ByteArray) : by8 (qB s) = (qtl s.data.toList).map (·.toNat) := by unfold by8 qB; rfl
theorem qtl_pos : ∀ (l : List UInt8), l.length ≤ (qtl l).length
  | [] => by simp
  | c :: l => by
    have := qtl_pos l
    show _ ≤ (q1 c ++ qtl l).length
    have h2 : 1 ≤ (q1 c).length := by unfold q1; split <;> simp
    rw [List.length_append, List.length_cons]; omega
theorem q_marks {s : ByteArray} (h1 : s.size ≠ 0) (h2 : (qB s).size ≤ 64) : marks (by8 (qB s)) = some ((by8 s).map fun b => Mk.one (sp b b)) := by
  have hp := qtl_pos s.data.toList
  rw [Array.length_toList] at hp
  have hs : s.data.size = s.size := rfl
  unfold marks
  rw [if_pos ⟨by rw [by8_length, qB_size]; omega, by rw [by8_length]; exact h2⟩, qB_by8, prs_quoted _ _ (Nat.le_refl _)]
  unfold by8
  rw [List.map_map]; rfl
theorem q_none {s : ByteArray} (h : s.size = 0 ∨ 64 < (qB s).size) : marks (by8 (qB s)) = none := by
  unfold marks
  rw [if_neg]
  rintro ⟨h1, h2⟩
  rw [by8_length] at h1 h2
  rcases h with h | h
  · have h0 : s.data.toList = [] := List.eq_nil_of_length_eq_zero (by simpa using h)
    rw [qB_size, h0] at h1
    simp [qtl] at h1
  · omega
theorem q_any {s : ByteArray} : isAny (qB s) = false := by
  cases hA : isAny (qB s) with
  | false => rfl
  | true =>
    have h := any_text hA
    have h2 : qtl s.data.toList = [42, 42] := by
      have := congrArg (fun x : ByteArray => x.data.toList) h
      simpa [qB] using this
    exfalso
    rcases hl : s.data.toList with _ | ⟨c, r⟩
    · rw [hl] at h2; cases h2
    · rw [hl] at h2
      have hq : qtl (c :: r) = q1 c ++ qtl r := rfl
      rw [hq] at h2
      unfold q1 at h2
      split at h2
      · simp only [List.cons_append, List.cons.injEq] at h2
        exact absurd h2.1 (by decide)
      · rename_i hc
        simp only [List.cons_append, List.cons.injEq] at h2
        obtain ⟨rfl, _⟩ := h2
        exact hc rfl
theorem q_ptR {s n : ByteArray} (h1 : s.size ≠ 0) (h2 : (qB s).size ≤ 64) : ptR (qB s) n = (decide (s = n), 0) := by
  unfold ptR
  rw [q_marks h1 h2, q_any]
  show (if false = true then _ else (cv _ _ _ 0 0, (0 : Int))) = _
  rw [if_neg (by decide)]
  congr 1
  rw [Bool.eq_iff_iff, cv_mt, mt_plain, decide_eq_true_iff]
  exact ⟨fun h => (by8_inj h).symm, fun h => by rw [h]⟩
theorem q_ptR0 {s n : ByteArray} (h : s.size = 0 ∨ 64 < (qB s).size) : ptR (qB s) n = (false, 31) := by unfold ptR; rw [q_none h]

theorem ext1 {s : ByteArray} {k : Nat} (h : k < s.size) : s.extract k (k + 1) = ⟨#[s[k]]⟩ := by
  have : (s.extract k (k + 1)).data.toList = [s[k]] := by
    rw [ext_list]
    have h2 : k < s.data.toList.length := by simpa using h
    rw [List.drop_eq_getElem_cons h2]
    simp
    rfl
  exact ByteArray.ext (Array.toList_inj.1 this)
theorem one_eq (c d : UInt8) : ((⟨#[c]⟩ : ByteArray).toList == [d]) = (c == d) := by
  rw [ByteArray.toList_eq]
  show ([c] == [d]) = _
  simp
theorem qB_next {s : ByteArray} {k : Nat} (h : k < s.size) : (⟨(qtl (s.data.toList.take (k + 1))).toArray⟩ : ByteArray) = ⟨(qtl (s.data.toList.take k)).toArray⟩ ++ ⟨(q1 s[k]).toArray⟩ := by
  rw [take_byte h, qtl_snoc]
  exact ByteArray.ext (by simp [ByteArray.data_append])

set_option maxRecDepth 100000 in
set_option maxHeartbeats 2000000 in
theorem rquote_any (s : ByteArray) (w : World) (hs : s.size ≤ 1000) :
    Calls Try.prog 22 #[.string s] w fun e w' => e = .returned (.string (qB s)) ∧ Below w.heap.size w w' := by
  have hsI : (s.size : Int) ≤ 1000 := by omega
  go_enter Try.func22, Try.ntmps22
  go_wp2_with fail
  go_loopw [3, 4] (fun o i wr => ∃ (k : Nat) (T : ByteArray), o = .string T ∧ i = .int .i64 k ∧ k ≤ s.size ∧ wr = w ∧ Hid (T = ⟨(qtl (s.data.toList.take k)).toArray⟩)) (fun _ i _ => s.size - (intOf i).toNat)
  case atStart => exact ⟨0, ⟨#[]⟩, rfl, rfl, by omega, rfl, Lib.hid rfl⟩
  case round =>
    obtain ⟨k, T, rfl, rfl, hk, rfl, hT⟩ := hrel
    by_cases hlt : k < s.size
    · have hkI : (k : Int) < (s.size : Int) := by omega
      have hTz : T.size ≤ 3000 := by
        rw [hT.out]
        have := qtl_len (s.data.toList.take k)
        rw [List.length_take] at this
        simp [ByteArray.size]; omega
      have he := ext1 hlt
      obtain ⟨c, hc⟩ : ∃ c, s[k] = c := ⟨_, rfl⟩
      rw [hc] at he
      obtain ⟨C, hC⟩ : ∃ C, s.extract k (k + 1) = C := ⟨_, rfl⟩
      have hCe : C = ⟨#[c]⟩ := by rw [← hC, he]
      have HN : Hid ((⟨(qtl (s.data.toList.take (k + 1))).toArray⟩ : ByteArray) = T ++ ⟨(q1 c).toArray⟩) := Lib.hid (by rw [qB_next hlt, hc, hT.out])
      have t1 : (C.toList == [63]) = (c == 63) := by rw [hCe]; exact one_eq c 63
      have t2 : (C.toList == [42]) = (c == 42) := by rw [hCe]; exact one_eq c 42
      have t3 : (C.toList == [91]) = (c == 91) := by rw [hCe]; exact one_eq c 91
      have hCz : C.size = 1 := by rw [hCe]; rfl
      have HC := Lib.hid hC
      have HCe := Lib.hid hCe
      have hA0 := fun W => run_string_add_sum (P := Try.prog) (w := W) T C (by omega)
      have hA1 := fun W => run_string_add_sum (P := Try.prog) (w := W) ⟨#[91]⟩ C (by rw [hCz]; decide)
      have hA2 := fun W => run_string_add_sum (P := Try.prog) (w := W) (⟨#[91]⟩ ++ C) ⟨#[93]⟩ (by rw [ByteArray.size_append, hCz]; decide)
      have hA3 := fun W => run_string_add_sum (P := Try.prog) (w := W) T (⟨#[91]⟩ ++ C ++ ⟨#[93]⟩) (by rw [ByteArray.size_append, ByteArray.size_append, hCz]; show T.size + (1 + 1 + 1) ≤ _; omega)
      have hSl : ∀ W, Sem.run Try.prog (Instr.slice 9 (Value.string s) (some (Value.int IntKind.i64 (k : Int))) (some (Value.int IntKind.i64 ((k : Int) + 1))) none) W = .ok (.string C) W := fun W => by
        have h := run_slice_string (P := Try.prog) (w := W) 9 s .i64 .i64 (k : Int) ((k : Int) + 1) (by rfl) (by omega) (by omega) (by omega)
        rw [← hC]
        exact h
      clear he hc hC hCe hCz
      cases hq : qm c with
      | false =>
        have hn : ¬ (c.toNat = 63 ∨ c.toNat = 42 ∨ c.toNat = 91) := fun h => by rw [qm_eq.2 h] at hq; cases hq
        unfold qm at hq
        simp only [Bool.or_eq_false_iff] at hq
        rw [hq.1] at t1
        rw [hq.2.1] at t2
        rw [hq.2.2] at t3
        have HE : Hid ((⟨(qtl (s.data.toList.take (k + 1))).toArray⟩ : ByteArray) = T ++ C) := Lib.hid (by
          rw [HN.out, HCe.out]
          have : q1 c = [c] := by unfold q1; rw [if_neg (by unfold qm; rw [hq.1, hq.2.1, hq.2.2]; decide)]
          rw [this])
        clear hn hq
        go_wp2_with fail
        refine ⟨⟨k + 1, _, rfl, by simp, by omega, trivial, Lib.hid HE.out.symm⟩, by simp only [intOf]; omega⟩
      | true =>
        have HE : Hid ((⟨(qtl (s.data.toList.take (k + 1))).toArray⟩ : ByteArray) = T ++ (⟨#[91]⟩ ++ C ++ ⟨#[93]⟩)) := Lib.hid (by
          rw [HN.out, HCe.out]
          have : q1 c = [91, c, 93] := by unfold q1; rw [if_pos hq]
          rw [this]; rfl)
        cases h1 : (c == 63) with
        | true =>
          rw [h1] at t1
          clear hq h1
          go_wp2_with fail
          refine ⟨⟨k + 1, _, rfl, by simp, by omega, trivial, Lib.hid HE.out.symm⟩, by simp only [intOf]; omega⟩
        | false =>
          rw [h1] at t1
          cases h2 : (c == 42) with
          | true =>
            rw [h2] at t2
            clear hq h1 h2
            go_wp2_with fail
            refine ⟨⟨k + 1, _, rfl, by simp, by omega, trivial, Lib.hid HE.out.symm⟩, by simp only [intOf]; omega⟩
          | false =>
            rw [h2] at t2
            have h3 : (c == 91) = true := by
              unfold qm at hq
              rw [h1, h2] at hq
              simpa using hq
            rw [h3] at t3
            clear hq h1 h2 h3
            go_wp2_with fail
            refine ⟨⟨k + 1, _, rfl, by simp, by omega, trivial, Lib.hid HE.out.symm⟩, by simp only [intOf]; omega⟩
    · have hks : k = s.size := by omega
      have HQ : Hid (T = qB s) := Lib.hid (by
        rw [hT.out, hks]
        unfold qB
        rw [List.take_of_length_le (by simp)])
      have hkI : ¬ ((k : Int) < (s.size : Int)) := by omega
      subst hks
      go_wp2_with fail
      rw [HQ.out]
      go_ret
      exact ⟨rfl, Below.refl _ _⟩
end Go.Proofs.Ytaielamimkigmaa
