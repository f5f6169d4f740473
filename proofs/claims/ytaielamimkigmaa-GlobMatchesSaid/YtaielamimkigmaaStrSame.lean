/-
  Whether two rows of texts are alike, whether one begins another, how great one is: the program's answers and the document's. Nothing of one statement alone stands here.
-/
import Derived.Test.YtaielamimkigmaaStrRows
namespace Go.Proofs.Ytaielamimkigmaa
open Go.RowKit Go.ChangeShapes
instance : DecidableEq ByteArray := fun a b => decidable_of_iff (a.toList = b.toList) ⟨fun h => by
  rw [ByteArray.toList_eq, ByteArray.toList_eq] at h
  obtain ⟨⟨x⟩⟩ := a
  obtain ⟨⟨y⟩⟩ := b
  simpa using h, fun h => by rw [h]⟩
theorem str_eq {x y : ByteArray} (h : x = y) : (x.toList == y.toList) = true := by rw [h]; exact beq_self_eq_true _
theorem str_ne {x y : ByteArray} (h : x ≠ y) : (x.toList == y.toList) = false := by
  refine Bool.eq_false_iff.2 fun g => h ?_
  have g := eq_of_beq g
  rw [ByteArray.toList_eq, ByteArray.toList_eq] at g
  obtain ⟨⟨p⟩⟩ := x
  obtain ⟨⟨q⟩⟩ := y
  simpa using g

set_option maxRecDepth 100000 in
set_option maxHeartbeats 1000000 in
theorem sameS_any (l m : List ByteArray) (a b : Option Addr) (c1 c2 n q : Nat) (w : World) (ha : Rs w a l) (hb : Rs w b m) (hl : l.length = n) (hm : m.length = q) :
    Calls Try.prog 23 #[.slice a n c1, .slice b q c2] w fun e w' => e = .returned (.bool (decide (l = m))) ∧ Below w.heap.size w w' := by
  have hm1 := ha.2.1
  have hm2 := hb.2.1
  unfold maxLen at hm1 hm2
  have n1 : n ≤ 9223372036854775807 := by omega
  have n2 : q ≤ 9223372036854775807 := by omega
  have HA := Lib.hid ha.2.2
  have HB := Lib.hid hb.2.2
  have HL := Lib.hid hl
  have HM := Lib.hid hm
  clear ha hb hl hm hm1 hm2
  by_cases hnq : n = q
  · subst hnq
    go_enter Try.func23, Try.ntmps23
    go_wp2_with fail
    go_loopw [5] (fun i wr => ∃ k : Nat, k ≤ n ∧ i = .int .i64 k ∧ Hid (Below w.heap.size w wr) ∧ Hid (l.take k = m.take k)) (fun i _ => n - (intOf i).toNat)
    case atStart => exact ⟨0, by omega, rfl, Lib.hid (Below.refl _ _), Lib.hid rfl⟩
    case round =>
      obtain ⟨k, hk, rfl, hbel, hE⟩ := hrel
      by_cases hlt : k < n
      · have hkl : k < l.length := by have := HL.out; omega
        have hkm : k < m.length := by have := HM.out; omega
        rcases HA.out with rfl | ⟨b1, o1, rfl, h1⟩
        · simp at hkl
        rcases HB.out with rfl | ⟨b2, o2, rfl, h2⟩
        · simp at hkm
        have c1 := (hbel.out.cell (block_lt_of_cell (h1 k hkl))).trans (h1 k hkl)
        have c2 := (hbel.out.cell (block_lt_of_cell (h2 k hkm))).trans (h2 k hkm)
        have HS := Lib.hid (fun g => take_step hkl hkm hE.out g)
        have HN := Lib.hid (fun g => take_miss hkl hkm g)
        generalize l[k] = x at c1 HS HN
        generalize m[k] = y at c2 HS HN
        have e1 := fun mm : Later wr => later_cell mm c1
        have e2 := fun mm : Later wr => later_cell mm c2
        have kl : (k : Int) < (n : Int) := by have := HL.out; omega
        clear h1 h2 hkl hkm c1 c2
        by_cases hxy : x = y
        · have HS' := Lib.hid (HS.out hxy)
          have t := str_eq hxy
          clear HS HN hxy
          go_wp2_with fail
          refine wp_region_later (by kernel_rfl) (by kernel_rfl) ?_
          repeat (go_big_quiet_step (fail))
          refine wpQuiet_nil ?_
          rintro _ ⟨mm, rfl⟩
          go_wp2
          go_roundw
          case rel => exact ⟨k + 1, by omega, by go_num, Lib.hid (hbel.out.trans (mm.bel.mono hbel.out.size)), HS'⟩
          case measure => simp [intOf]; omega
        · have HN' := Lib.hid (HN.out hxy)
          have t := str_ne hxy
          clear HS HN hxy
          go_wp2_with fail
          refine wp_region_later (by kernel_rfl) (by kernel_rfl) ?_
          repeat (go_big_quiet_step (fail))
          refine wpQuiet_nil ?_
          rintro _ ⟨mm, rfl⟩
          go_wp2
          go_ret
          refine ⟨sbool (Eq.symm (decide_eq_false ?_)), hbel.out.trans (mm.bel.mono hbel.out.size)⟩
          exact fun h => HN'.out _ hlt (by rw [h])
      · have hkn : k = n := by omega
        subst hkn
        go_wp2
        go_ret
        refine ⟨sbool (Eq.symm (decide_eq_true ?_)), hbel.out⟩
        have h := hE.out
        rw [List.take_of_length_le (by have := HL.out; omega), List.take_of_length_le (by have := HM.out; omega)] at h
        exact h
  · have t0 : ((n : Int) != (q : Int)) = true := by simp; omega
    have HN := Lib.hid (show ¬ l = m from fun h => hnq (by rw [← HL.out, ← HM.out, h]))
    clear hnq HA HB HL HM
    go_enter Try.func23, Try.ntmps23
    go_wp2
    go_ret
    exact ⟨sbool (decide_eq_false HN.out).symm, Below.refl _ _⟩

/-- whether a row lies in another one: it begins it, and is shorter -/
def Ins (l m : List ByteArray) : Prop := m.length < l.length ∧ l.take m.length = m
instance (l m : List ByteArray) : Decidable (Ins l m) := by unfold Ins; infer_instance

end Go.Proofs.Ytaielamimkigmaa
