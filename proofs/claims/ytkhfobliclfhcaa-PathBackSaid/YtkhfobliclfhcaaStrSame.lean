/-
  Whether two rows of texts are alike, whether one begins another, how great one is: the program's answers and the document's. Nothing of one statement alone stands here.
-/
import Derived.Test.YtkhfobliclfhcaaStrRows
namespace Go.Proofs.Ytkhfobliclfhcaa
open Go.RowKit Go.ChangeShapes
instance : DecidableEq ByteArray := fun a b => decidable_of_iff (a.toList = b.toList) ⟨fun h => by
  rw [ByteArray.toList_eq, ByteArray.toList_eq] at h
  obtain ⟨⟨x⟩⟩ := a
  obtain ⟨⟨y⟩⟩ := b
  simpa using h, fun h => by rw [h]⟩
theorem str_eq {x y : ByteArray} (h : x = y) : (x.toList == y.toList) = true := by rw [h]; exact beq_self_eq_true _
theorem str_ne {x y : ByteArray} (h : x ≠ y) : (x.toList == y.toList) = false := by
  refine Bool.eq_false_iff.2 fun g => h ?_
  have g := eq_of_beq g
  rw [ByteArray.toList_eq, ByteArray.toList_eq] at g
  obtain ⟨⟨p⟩⟩ := x
  obtain ⟨⟨q⟩⟩ := y
  simpa using g

set_option maxRecDepth 100000 in
set_option maxHeartbeats 1000000 in
theorem sameS_any (l m : List ByteArray) (a b : Option Addr) (c1 c2 n q : Nat) (w : World) (ha : Rs w a l) (hb : Rs w b m) (hl : l.length = n) (hm : m.length = q) :
    Calls Try.prog 13 #[.slice a n c1, .slice b q c2] w fun e w' => e = .returned (.bool (decide (l = m))) ∧ Below w.heap.size w w' := by
  have hm1 := ha.2.1
  have hm2 := hb.2.1
  unfold maxLen at hm1 hm2
  have n1 : n ≤ 9223372036854775807 := by omega
  have n2 : q ≤ 9223372036854775807 := by omega
  have HA := Lib.hid ha.2.2
  have HB := Lib.hid hb.2.2
  have HL := Lib.hid hl
  have HM := Lib.hid hm
  clear ha hb hl hm hm1 hm2
  by_cases hnq : n = q
  · subst hnq
    go_enter Try.func13, Try.ntmps13
    go_wp2_with fail
    go_loopw [5] (fun i wr => ∃ k : Nat, k ≤ n ∧ i = .int .i64 k ∧ Hid (Below w.heap.size w wr) ∧ Hid (l.take k = m.take k)) (fun i _ => n - (intOf i).toNat)
    case atStart => exact ⟨0, by omega, rfl, Lib.hid (Below.refl _ _), Lib.hid rfl⟩
    case round =>
      obtain ⟨k, hk, rfl, hbel, hE⟩ := hrel
      by_cases hlt : k < n
      · have hkl : k < l.length := by have := HL.out; omega
        have hkm : k < m.length := by have := HM.out; omega
        rcases HA.out with rfl | ⟨b1, o1, rfl, h1⟩
        · simp at hkl
        rcases HB.out with rfl | ⟨b2, o2, rfl, h2⟩
        · simp at hkm
        have c1 := (hbel.out.cell (block_lt_of_cell (h1 k hkl))).trans (h1 k hkl)
        have c2 := (hbel.out.cell (block_lt_of_cell (h2 k hkm))).trans (h2 k hkm)
        have HS := Lib.hid (fun g => take_step hkl hkm hE.out g)
        have HN := Lib.hid (fun g => take_miss hkl hkm g)
        generalize l[k] = x at c1 HS HN
        generalize m[k] = y at c2 HS HN
        have e1 := fun mm : Later wr => later_cell mm c1
        have e2 := fun mm : Later wr => later_cell mm c2
        have kl : (k : Int) < (n : Int) := by have := HL.out; omega
        clear h1 h2 hkl hkm c1 c2
        by_cases hxy : x = y
        · have HS' := Lib.hid (HS.out hxy)
          have t := str_eq hxy
          clear HS HN hxy
          go_wp2_with fail
          refine wp_region_later (by kernel_rfl) (by kernel_rfl) ?_
          repeat (go_big_quiet_step (fail))
          refine wpQuiet_nil ?_
          rintro _ ⟨mm, rfl⟩
          go_wp2
          go_roundw
          case rel => exact ⟨k + 1, by omega, by go_num, Lib.hid (hbel.out.trans (mm.bel.mono hbel.out.size)), HS'⟩
          case measure => simp [intOf]; omega
        · have HN' := Lib.hid (HN.out hxy)
          have t := str_ne hxy
          clear HS HN hxy
          go_wp2_with fail
          refine wp_region_later (by kernel_rfl) (by kernel_rfl) ?_
          repeat (go_big_quiet_step (fail))
          refine wpQuiet_nil ?_
          rintro _ ⟨mm, rfl⟩
          go_wp2
          go_ret
          refine ⟨sbool (Eq.symm (decide_eq_false ?_)), hbel.out.trans (mm.bel.mono hbel.out.size)⟩
          exact fun h => HN'.out _ hlt (by rw [h])
      · have hkn : k = n := by omega
        subst hkn
        go_wp2
        go_ret
        refine ⟨sbool (Eq.symm (decide_eq_true ?_)), hbel.out⟩
        have h := hE.out
        rw [List.take_of_length_le (by have := HL.out; omega), List.take_of_length_le (by have := HM.out; omega)] at h
        exact h
  · have t0 : ((n : Int) != (q : Int)) = true := by simp; omega
    have HN := Lib.hid (show ¬ l = m from fun h => hnq (by rw [← HL.out, ← HM.out, h]))
    clear hnq HA HB HL HM
    go_enter Try.func13, Try.ntmps13
    go_wp2
    go_ret
    exact ⟨sbool (decide_eq_false HN.out).symm, Below.refl _ _⟩

set_option maxRecDepth 100000 in
set_option maxHeartbeats 1000000 in
theorem equalS_any (l m : List ByteArray) (a b : Option Addr) (c1 c2 n q : Nat) (w : World) (ha : Rs w a l) (hb : Rs w b m) (hl : l.length = n) (hm : m.length = q) :
    Calls Try.prog 22 #[.slice a n c1, .slice b q c2] w fun e w' => e = .returned (.bool (decide (l = m))) ∧ Below w.heap.size w w' := by
  have hm1 := ha.2.1
  have hm2 := hb.2.1
  unfold maxLen at hm1 hm2
  have n1 : n ≤ 9223372036854775807 := by omega
  have n2 : q ≤ 9223372036854775807 := by omega
  have HA := Lib.hid ha.2.2
  have HB := Lib.hid hb.2.2
  have HL := Lib.hid hl
  have HM := Lib.hid hm
  clear ha hb hl hm hm1 hm2
  by_cases hnq : n = q
  · subst hnq
    go_enter Try.func22, Try.ntmps22
    go_wp2_with fail
    go_loopw [5, 13] (fun _ i wr => ∃ k : Nat, k ≤ n ∧ i = .int .i64 k ∧ Hid (Below w.heap.size w wr) ∧ Hid (l.take k = m.take k)) (fun _ i _ => n - (intOf i).toNat)
    case atStart => exact ⟨0, by omega, rfl, Lib.hid (Below.refl _ _), Lib.hid rfl⟩
    case round =>
      obtain ⟨k, hk, rfl, hbel, hE⟩ := hrel
      by_cases hlt : k < n
      · have hkl : k < l.length := by have := HL.out; omega
        have hkm : k < m.length := by have := HM.out; omega
        rcases HA.out with rfl | ⟨b1, o1, rfl, h1⟩
        · simp at hkl
        rcases HB.out with rfl | ⟨b2, o2, rfl, h2⟩
        · simp at hkm
        have c1 := (hbel.out.cell (block_lt_of_cell (h1 k hkl))).trans (h1 k hkl)
        have c2 := (hbel.out.cell (block_lt_of_cell (h2 k hkm))).trans (h2 k hkm)
        have HS := Lib.hid (fun g => take_step hkl hkm hE.out g)
        have HN := Lib.hid (fun g => take_miss hkl hkm g)
        generalize l[k] = x at c1 HS HN
        generalize m[k] = y at c2 HS HN
        have e1 := fun mm : Later wr => later_cell mm c1
        have e2 := fun mm : Later wr => later_cell mm c2
        have kl : (k : Int) < (n : Int) := by have := HL.out; omega
        clear h1 h2 hkl hkm c1 c2
        by_cases hxy : x = y
        · have HS' := Lib.hid (HS.out hxy)
          have t := str_eq hxy
          clear HS HN hxy
          go_wp2_with fail
          refine wp_region_later (by kernel_rfl) (by kernel_rfl) ?_
          repeat (go_big_quiet_step (fail))
          refine wpQuiet_nil ?_
          rintro _ ⟨mm, rfl⟩
          go_wp2
          go_roundw
          case rel => exact ⟨k + 1, by omega, by go_num, Lib.hid (hbel.out.trans (mm.bel.mono hbel.out.size)), HS'⟩
          case measure => simp [intOf]; omega
        · have HN' := Lib.hid (HN.out hxy)
          have t := str_ne hxy
          clear HS HN hxy
          go_wp2_with fail
          refine wp_region_later (by kernel_rfl) (by kernel_rfl) ?_
          repeat (go_big_quiet_step (fail))
          refine wpQuiet_nil ?_
          rintro _ ⟨mm, rfl⟩
          go_wp2
          go_ret
          refine ⟨sbool (Eq.symm (decide_eq_false ?_)), hbel.out.trans (mm.bel.mono hbel.out.size)⟩
          exact fun h => HN'.out _ hlt (by rw [h])
      · have hkn : k = n := by omega
        subst hkn
        go_wp2
        go_ret
        refine ⟨sbool (Eq.symm (decide_eq_true ?_)), hbel.out⟩
        have h := hE.out
        rw [List.take_of_length_le (by have := HL.out; omega), List.take_of_length_le (by have := HM.out; omega)] at h
        exact h
  · have t0 : ((n : Int) != (q : Int)) = true := by simp; omega
    have HN := Lib.hid (show ¬ l = m from fun h => hnq (by rw [← HL.out, ← HM.out, h]))
    clear hnq HA HB HL HM
    go_enter Try.func22, Try.ntmps22
    go_wp2
    go_ret
    exact ⟨sbool (decide_eq_false HN.out).symm, Below.refl _ _⟩

/-- whether a row lies in another one: it begins it, and is shorter -/
def Ins (l m : List ByteArray) : Prop := m.length < l.length ∧ l.take m.length = m
instance (l m : List ByteArray) : Decidable (Ins l m) := by unfold Ins; infer_instance

set_option maxRecDepth 100000 in
set_option maxHeartbeats 1000000 in
theorem refInside_any (l m : List ByteArray) (a b : Option Addr) (c1 c2 n q : Nat) (w : World) (ha : Rs w a l) (hb : Rs w b m) (hl : l.length = n) (hm : m.length = q) :
    Calls Try.prog 15 #[.slice a n c1, .slice b q c2] w fun e w' => e = .returned (.bool (decide (Ins l m))) ∧ Below w.heap.size w w' := by
  have hm1 := ha.2.1
  have hm2 := hb.2.1
  unfold maxLen at hm1 hm2
  have n1 : n ≤ 9223372036854775807 := by omega
  have n2 : q ≤ 9223372036854775807 := by omega
  have HA := Lib.hid ha.2.2
  have HB := Lib.hid hb.2.2
  have HL := Lib.hid hl
  have HM := Lib.hid hm
  clear ha hb hl hm hm1 hm2
  by_cases hnq : n ≤ q
  · have t0 : decide ((n : Int) ≤ (q : Int)) = true := by simp; omega
    have HN := Lib.hid (show ¬ Ins l m from fun h => by have := h.1; have := HL.out; have := HM.out; omega)
    clear HA HB HL HM
    go_enter Try.func15, Try.ntmps15
    go_wp2
    go_ret
    exact ⟨sbool (decide_eq_false HN.out).symm, Below.refl _ _⟩
  have t0 : decide ((n : Int) ≤ (q : Int)) = false := by simp; omega
  have hqn : q < n := by omega
  go_enter Try.func15, Try.ntmps15
  go_wp2_with fail
  go_loopw [5] (fun i wr => ∃ k : Nat, k ≤ q ∧ i = .int .i64 k ∧ Hid (Below w.heap.size w wr) ∧ Hid (l.take k = m.take k)) (fun i _ => q - (intOf i).toNat)
  case atStart => exact ⟨0, by omega, rfl, Lib.hid (Below.refl _ _), Lib.hid rfl⟩
  case round =>
    obtain ⟨k, hk, rfl, hbel, hE⟩ := hrel
    by_cases hlt : k < q
    · have hkl : k < l.length := by have := HL.out; omega
      have hkm : k < m.length := by have := HM.out; omega
      rcases HA.out with rfl | ⟨b1, o1, rfl, h1⟩
      · simp at hkl
      rcases HB.out with rfl | ⟨b2, o2, rfl, h2⟩
      · simp at hkm
      have c1 := (hbel.out.cell (block_lt_of_cell (h1 k hkl))).trans (h1 k hkl)
      have c2 := (hbel.out.cell (block_lt_of_cell (h2 k hkm))).trans (h2 k hkm)
      have HS := Lib.hid (fun g => take_step hkl hkm hE.out g)
      have HN := Lib.hid (fun g => take_miss hkl hkm g)
      generalize l[k] = x at c1 HS HN
      generalize m[k] = y at c2 HS HN
      have e1 := fun mm : Later wr => later_cell mm c1
      have e2 := fun mm : Later wr => later_cell mm c2
      have kl : (k : Int) < (n : Int) := by have := HL.out; omega
      have km : (k : Int) < (q : Int) := by have := HM.out; omega
      clear h1 h2 hkl hkm c1 c2
      by_cases hxy : x = y
      · have HS' := Lib.hid (HS.out hxy)
        have t := str_eq hxy
        clear HS HN hxy
        go_wp2_with fail
        refine wp_region_later (by kernel_rfl) (by kernel_rfl) ?_
        repeat (go_big_quiet_step (fail))
        refine wpQuiet_nil ?_
        rintro _ ⟨mm, rfl⟩
        go_wp2
        go_roundw
        case rel => exact ⟨k + 1, by omega, by go_num, Lib.hid (hbel.out.trans (mm.bel.mono hbel.out.size)), HS'⟩
        case measure => simp [intOf]; omega
      · have HN' := Lib.hid (HN.out hxy)
        have t := str_ne hxy
        clear HS HN hxy
        go_wp2_with fail
        refine wp_region_later (by kernel_rfl) (by kernel_rfl) ?_
        repeat (go_big_quiet_step (fail))
        refine wpQuiet_nil ?_
        rintro _ ⟨mm, rfl⟩
        go_wp2
        go_ret
        refine ⟨sbool (Eq.symm (decide_eq_false ?_)), hbel.out.trans (mm.bel.mono hbel.out.size)⟩
        exact fun h => HN'.out _ hlt (by have e := h.2; rw [HM.out] at e; rw [e, List.take_of_length_le (by have := HM.out; omega)])
    · have hkn : k = q := by omega
      subst hkn
      go_wp2
      go_ret
      refine ⟨sbool (Eq.symm (decide_eq_true ?_)), hbel.out⟩
      refine ⟨by have := HL.out; have := HM.out; omega, ?_⟩
      have h := hE.out
      rw [List.take_of_length_le (l := m) (by have := HM.out; omega)] at h
      rw [HM.out]
      exact h

set_option maxRecDepth 100000 in
set_option maxHeartbeats 1000000 in
theorem inside_any (l m : List ByteArray) (a b : Option Addr) (c1 c2 n q : Nat) (w : World) (ha : Rs w a l) (hb : Rs w b m) (hl : l.length = n) (hm : m.length = q) (hc : n ≤ c1) :
    Calls Try.prog 14 #[.slice a n c1, .slice b q c2] w fun e w' => e = .returned (.bool (decide (Ins l m))) ∧ Below w.heap.size w w' := by
  by_cases hqn : q < n
  · have t0 : decide ((q : Int) < (n : Int)) = true := by simp; omega
    have HE := Lib.hid (equalS_any (l.take q) m a b c1 c2 q q w (ha.take q) hb (by rw [List.length_take]; omega) hm)
    have e1 : decide (l.take q = m) = decide (Ins l m) := by
      have : Ins l m ↔ l.take q = m := by unfold Ins; rw [hm, hl]; exact ⟨fun h => h.2, fun h => ⟨hqn, h⟩⟩
      simp only [this]
    rw [e1] at HE
    generalize decide (Ins l m) = r at HE ⊢
    have q0 : (0 : Int) ≤ (q : Int) := by omega
    have q1 : (q : Int) ≤ (c1 : Int) := by omega
    clear ha hb hl hm e1
    go_enter Try.func14, Try.ntmps14
    go_wp2_with fail
    refine HE.out.mono ?_
    rintro e w' ⟨rfl, hb⟩
    go_wp2
    go_ret
    exact ⟨rfl, hb⟩
  · have t0 : decide ((q : Int) < (n : Int)) = false := by simp; omega
    have HN := Lib.hid (show ¬ Ins l m from fun h => by have := h.1; omega)
    clear ha hb hl hm
    go_enter Try.func14, Try.ntmps14
    go_wp2
    go_ret
    exact ⟨sbool (decide_eq_false HN.out).symm, Below.refl _ _⟩
end Go.Proofs.Ytkhfobliclfhcaa
