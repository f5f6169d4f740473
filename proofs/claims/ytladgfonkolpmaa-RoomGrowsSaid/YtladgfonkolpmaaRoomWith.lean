/-
  A row made greater, and cut: the program's answers. Nothing of one statement alone stands here.
-/
import Derived.Test.YtladgfonkolpmaaRoomFile
import Derived.Test.YtladgfonkolpmaaRoomSet
import Derived.Test.YtladgfonkolpmaaShelfSort
import Derived.Test.YtladgfonkolpmaaInoPoint
import Derived.Sort.OwnSortedInts
import Derived.Sort.Grow
import Derived.Lib.OwnBridge
namespace Go.Proofs.Ytladgfonkolpmaa
open Go.RowKit Crcm Tagm Inom Roomm Go.ChangeShapes

theorem cloneI_any (l : List Int) (a : Option Addr) (c n : Nat) (w : World) (ha : Ri w a l) (hl : l.length = n) (hn : n ≤ 100000) :
    Calls Try.prog 54 #[.slice a n c] w fun e w' => ∃ v, e = .returned v ∧ w'.ownsRow w.heap.size 3 1 v n (l.map (Value.int .i64)) ∧ Below w.heap.size w w' := by
  rcases a with _ | ⟨b, off, sp⟩
  · have hn0 : n = 0 := by
      rcases ha.2.2 with rfl | ⟨b, off, e, _⟩
      · simpa using hl.symm
      · cases e
    subst hn0
    obtain rfl := List.eq_nil_of_length_eq_zero hl
    refine (Try.slices_Clone_int_nil 0 c w).mono ?_
    rintro e w' ⟨rfl, rfl⟩
    exact ⟨_, rfl, World.ownsRow_nil _ _ _ _, Below.refl _ _⟩
  · by_cases h0 : n = 0
    · subst h0
      obtain rfl := List.eq_nil_of_length_eq_zero hl
      refine (Try.slices_Clone_int_zero _ c w).mono ?_
      rintro e w' ⟨v, rfl, h1, -, h2⟩
      exact ⟨v, rfl, h1, h2⟩
    · obtain ⟨b', off', e⟩ := ha.addr (by omega)
      injection e with e
      injection e with e1 e2 e3
      subst e1 e2 e3
      rcases ha.2.2 with rfl | ⟨b', off', e, h3⟩
      · simp at hl; omega
      · injection e with e
        injection e with e1 e2
        subst e1 e2
        refine (Try.slices_Clone_int b off n c l w (by omega) (by omega) h3).mono ?_
        rintro e w' ⟨v, rfl, h1, -, h2⟩
        rw [List.take_of_length_le (by omega)] at h1
        exact ⟨v, rfl, h1, h2⟩

open Go.Sort in
theorem sortI_any {xs : List Int} {v : Value} {n B : Nat} (w : World) (h : w.ownsRow B 3 1 v n (xs.map (Value.int .i64))) (hn : n ≤ 1000000) (hB : B ≤ w.heap.size) :
    Calls Try.prog 55 #[v] w fun e w' => e = .returned (.tuple #[]) ∧ w'.ownsRow B 3 1 v n ((xs.mergeSort fun x y => decide (x ≤ y)).map (Value.int .i64)) ∧ Below B w w' := by
  have hl : xs.length = n := by simpa using h.1
  have h0 := h
  rcases h.2 with ⟨rfl, hx⟩ | ⟨g, cap, cur, rfl, hb, hg, h1, h2, h3, h4⟩
  · subst hx
    obtain rfl := List.eq_nil_of_length_eq_zero hl
    refine (Try.slices_Sort_int_none none 0 w).mono ?_
    rintro e w' ⟨rfl, rfl⟩
    exact ⟨rfl, by rw [List.mergeSort_nil]; exact World.ownsRow_nil _ _ _ _, Below.refl _ _⟩
  · subst hl
    obtain ⟨g', cap', e, -, hlt, -, -, -, hH⟩ := Lib.holds_of_ownsRow h0 (by simp)
    injection e with e1 _ e3
    injection e1 with e1
    injection e1 with e1
    subst e1 e3
    refine (Try.slices_Sort_int g 0 cap xs w hH hlt (by omega)).mono ?_
    rintro e w' ⟨rfl, q, os, rfl⟩
    refine ⟨rfl, ownsRow_sortedI (by rw [List.length_mergeSort]) hb hg h1 h2 h3, (Below.refl _ _).grown (grownBy_sortedI _) hB (fun j hj => by cases hj; exact hb)⟩

open Go.Sort in
theorem compactI_any {xs : List Int} {v : Value} {n B : Nat} (w : World) (h : w.ownsRow B 3 1 v n (xs.map (Value.int .i64))) (hn : n ≤ 1000000) :
    Calls Try.prog 56 #[v] w fun e w' => ∃ v', e = .returned v' ∧ w'.ownsRow B 3 1 v' (Lib.compact xs).length ((Lib.compact xs).map (Value.int .i64)) ∧ Below B w w' := by
  have hl : xs.length = n := by simpa using h.1
  have h0 := h
  rcases h.2 with ⟨rfl, hx⟩ | ⟨g, cap, cur, rfl, hb, hg, h1, h2, h3, h4⟩
  · subst hx
    obtain rfl := List.eq_nil_of_length_eq_zero hl
    refine (Try.slices_Compact_int_empty none 0 w).mono ?_
    rintro e w' ⟨rfl, rfl⟩
    exact ⟨_, rfl, World.ownsRow_nil _ _ _ _, Below.refl _ _⟩
  · subst hl
    obtain ⟨g', cap', e, -, hlt, -, -, -, hH⟩ := Lib.holds_of_ownsRow h0 (by simp)
    injection e with e1 _ e3
    injection e1 with e1
    injection e1 with e1
    subst e1 e3
    have hle := Lib.compact_length_le xs
    refine (Try.slices_Compact_int g 0 cap xs w hH (by omega) (by omega)).mono ?_
    rintro e w' ⟨rfl, q, rfl⟩
    have hc := Lib.ownsRow_putRow (q := q) (k := (Lib.compact xs).length) (ys := Lib.compact xs ++ List.replicate (xs.length - (Lib.compact xs).length) 0) h0 (by simp; omega) hle
    rw [List.take_left] at hc
    exact ⟨_, rfl, hc, Lib.below_putRow (Below.refl _ _) hb⟩

theorem own_shape {w : World} {base k : Nat} {v : Value} {xs : List Value} {e : TypeId} (h : w.ownsRow base e 1 v k xs) : ∃ a c, v = .slice a k c ∧ (a = none → c = 0) := by
  rcases h.2 with ⟨rfl, hx⟩ | ⟨g, cap, cur, rfl, _⟩
  · subst hx; exact ⟨none, 0, rfl, fun _ => rfl⟩
  · exact ⟨_, cap, rfl, fun e => by cases e⟩

theorem ri_one (w : World) (x : Int) (hx : I64 x) : Ri (w.alloc (.cells #[.int .i64 x] 3)) (some ⟨w.heap.size, 0, none⟩) [x] := by
  refine ⟨fun n hn => by rw [List.mem_singleton.1 hn]; exact hx, by simp [maxLen], .inr ⟨_, 0, rfl, fun j hj => ?_⟩⟩
  simp at hj
  subst hj
  exact (Blk.new w 3 #[.int .i64 x]).cell 0

set_option maxRecDepth 100000 in
set_option maxHeartbeats 2000000 in
/-- what is left to do once all numbers stand in a row -/
theorem with_tail {l : List Int} {v : Value} {n B : Nat} (w : World) (h : w.ownsRow B 3 1 v n (l.map (Value.int .i64))) (hn : n ≤ 1000000) (hB : B ≤ w.heap.size) (hI : ∀ x ∈ l, I64 x) :
    Calls Try.prog 55 #[v] w fun e w1 => e = .returned (.tuple #[]) ∧ Below B w w1 ∧ Calls Try.prog 56 #[v] w1 fun e w2 => ∃ A cc, e = .returned (.slice A (srt l).length cc) ∧ (A = none → cc = 0) ∧ Ri w2 A (srt l) ∧ Below B w1 w2 := by
  refine (sortI_any w h hn hB).mono ?_
  rintro e w1 ⟨rfl, h1, hb⟩
  refine ⟨rfl, hb, (compactI_any w1 h1 hn).mono ?_⟩
  rintro e w2 ⟨v', rfl, h2, hb2⟩
  obtain ⟨A, cc, rfl, hA⟩ := own_shape h2
  obtain ⟨A', cc', e, hr, -, -⟩ := Ri.of_own h2 (fun m hm => hI m ((srt_mem l m).1 hm))
  injection e with e1 e2 e3
  subst e1 e3
  exact ⟨_, _, rfl, hA, hr, hb2⟩

set_option maxRecDepth 100000 in
set_option maxHeartbeats 2000000 in
theorem with_any (l : List Int) (a : Option Addr) (c n : Nat) (fr to : Int) (w : World) (ha : Ri w a l) (hl : l.length = n) (hn : n ≤ 100000) (hf : I64 fr) (ht : I64 to) :
    Calls Try.prog 32 #[.slice a n c, .int .i64 fr, .int .i64 to] w fun e w' => ∃ A cc, e = .returned (.slice A (srt (ext l fr to)).length cc) ∧ (A = none → cc = 0) ∧ Ri w' A (srt (ext l fr to)) ∧ Below w.heap.size w w' := by
  have HC := Lib.hid (cloneI_any l a c n w ha hl hn)
  have HI : Hid (∀ x ∈ l, I64 x) := Lib.hid ha.1
  have HL := Lib.hid hl
  have HN := Lib.hid hn
  have HF := Lib.hid hf
  have HTo := Lib.hid ht
  generalize hr0 : srt (ext l fr to) = r
  have HRr := Lib.hid hr0
  clear ha hl hn hf ht hr0
  by_cases h : 0 ≤ fr ∧ to ≤ 131072
  · obtain ⟨h0, h1⟩ := h
    have hfb := HF.out.2
    go_enter Try.func32, Try.ntmps32
    go_wp2_with fail
    refine HC.out.mono ?_
    rintro e w1 ⟨v1, rfl, hown, hb⟩
    have HO := Lib.hid hown
    have HB := Lib.hid hb
    clear hown hb HC
    go_wp2_with fail
    go_loopw [7, 8] (fun v i wr => ∃ k : Nat, (fr + (k : Int) ≤ to ∨ k = 0) ∧ i = .int .i64 (fr + (k : Int)) ∧ Hid (wr.ownsRow w.heap.size 3 1 v (n + k) ((l ++ upto fr (fr + (k : Int))).map (Value.int .i64))) ∧ Hid (Below w.heap.size w wr)) (fun _ i _ => (to - intOf i).toNat)
    case atStart => exact ⟨0, by omega, by simp, Lib.hid (by rw [upto_none (by omega), List.append_nil]; exact HO.out), HB⟩
    case round =>
      obtain ⟨k, hk, rfl, O, B⟩ := hrel
      by_cases hlt : fr + (k : Int) < to
      · have hx : I64 (fr + (k : Int)) := by have := HF.out; have := HTo.out; unfold I64 at *; omega
        have hk2 : (k : Int) ≤ 131072 := by omega
        have hO := O.out
        have hBz := B.out.size
        have hU : Hid ((l ++ upto fr (fr + (k : Int))) ++ [fr + (k : Int)] = l ++ upto fr (fr + ((k + 1 : Nat) : Int))) := Lib.hid (by
          rw [List.append_assoc, ← upto_snoc (by omega)]; congr 2; omega)
        have hw : IntKind.i64.wrap (fr + (k : Int) + 1) = fr + (k : Int) + 1 := IntWalk.i64_in _ (by omega)
        go_wp2_with (at_builtin; refine append_ints rfl _ _ rfl w.heap.size _ (n + k) _ rfl (hO.alloc _) (some ⟨wr.heap.size, 0, none⟩) 1 1 [fr + (k : Int)] rfl rfl (ri_one wr _ hx) (fun e => by cases e) (by have := HN.out; omega) (by simp; omega) ?_; intro v' w' hown' hb' _ _)
        go_roundw
        case rel =>
          refine ⟨k + 1, by omega, by go_num, Lib.hid ?_, Lib.hid (B.out.trans (((Below.refl _ _).alloc hBz _).trans hb'))⟩
          rw [hU.out] at hown'
          exact hown'
        case measure => simp [intOf]; omega
      · have hE : Hid (l ++ upto fr (fr + (k : Int)) = ext l fr to) := Lib.hid (by
          rw [ext_yes ⟨h0, h1⟩]
          rcases hk with hk | rfl
          · rw [show fr + (k : Int) = to by omega]
          · rw [upto_none (by omega), upto_none (by omega)])
        have hk2 : k ≤ 131072 := by omega
        have HT := Lib.hid (with_tail wr O.out (by have := HN.out; omega) B.out.size (fun x hx => by
          rcases List.mem_append.1 hx with hx | hx
          · exact HI.out x hx
          · have := mem_upto.1 hx; have := HF.out; have := HTo.out; unfold I64 at *; omega))
        rw [hE.out, HRr.out] at HT
        clear O hE hk hk2
        go_wp2_with fail
        refine HT.out.mono ?_
        rintro e w3 ⟨rfl, hb3, hc3⟩
        have B3 := Lib.hid (B.out.trans hb3)
        have HC3 := Lib.hid hc3
        clear hb3 hc3 HT
        go_wp2_with fail
        refine HC3.out.mono ?_
        rintro e w4 ⟨A, cc, rfl, hA, hr, hb4⟩
        have B4 := Lib.hid (B3.out.trans hb4)
        have HA := Lib.hid hA
        have HR := Lib.hid hr
        clear hb4 hA hr
        go_wp2
        go_ret
        exact ⟨A, cc, rfl, HA.out, HR.out, B4.out⟩
  · have hE := HRr.out
    rw [ext_no (l := l) h] at hE
    have HE := Lib.hid hE
    have hn : fr < 0 ∨ (0 ≤ fr ∧ 131072 < to) := by omega
    clear hE h
    rcases hn with hn | ⟨hn, hn2⟩
    all_goals
      go_enter Try.func32, Try.ntmps32
      go_wp2_with fail
      refine HC.out.mono ?_
      rintro e w1 ⟨v1, rfl, hown, hb⟩
      have HB := Lib.hid hb
      have HT := Lib.hid (with_tail w1 hown (by have := HN.out; omega) hb.size HI.out)
      rw [HE.out] at HT
      clear hown hb HC
      go_wp2_with fail
      refine HT.out.mono ?_
      rintro e w3 ⟨rfl, hb3, hc3⟩
      have B3 := Lib.hid (HB.out.trans hb3)
      have HC3 := Lib.hid hc3
      clear hb3 hc3 HT
      go_wp2_with fail
      refine HC3.out.mono ?_
      rintro e w4 ⟨A, cc, rfl, hA, hr, hb4⟩
      have B4 := Lib.hid (B3.out.trans hb4)
      have HA := Lib.hid hA
      have HR := Lib.hid hr
      clear hb4 hA hr
      go_wp2
      go_ret
      exact ⟨A, cc, rfl, HA.out, HR.out, B4.out⟩

theorem snoc_filter {l : List Int} {k : Nat} (hk : k < l.length) (n : Int) : (l.take (k + 1)).filter (fun x => decide (x < n)) = (l.take k).filter (fun x => decide (x < n)) ++ if l.getD k 0 < n then [l.getD k 0] else [] := by
  rw [take_getD hk, List.filter_append]
  congr 1
  by_cases h : l.getD k 0 < n
  · rw [if_pos h, List.filter_cons, if_pos (decide_eq_true h)]; rfl
  · rw [if_neg h, List.filter_cons, if_neg (by rw [decide_eq_true_eq]; exact h)]; rfl

set_option maxRecDepth 100000 in
set_option maxHeartbeats 2000000 in
theorem cut_any (l : List Int) (a : Option Addr) (c n : Nat) (m : Int) (w : World) (ha : Ri w a l) (hl : l.length = n) (hn : n ≤ 100000) :
    Calls Try.prog 34 #[.slice a n c, .int .i64 m] w fun e w' => ∃ A cc, e = .returned (.slice A (l.filter (fun x => decide (x < m))).length cc) ∧ (A = none → cc = 0) ∧ Ri w' A (l.filter (fun x => decide (x < m))) ∧ Below w.heap.size w w' := by
  generalize hr0 : l.filter (fun x => decide (x < m)) = r
  have HRr := Lib.hid hr0
  have HA := Lib.hid ha
  have HL := Lib.hid hl
  have n1 : n ≤ 9223372036854775807 := by omega
  have HN := Lib.hid hn
  clear ha hl hn hr0
  go_enter Try.func34, Try.ntmps34
  go_wp2_with fail
  go_loopw [5, 10] (fun v i wr => ∃ k : Nat, k ≤ n ∧ i = .int .i64 k ∧ Hid (wr.ownsRow w.heap.size 3 1 v ((l.take k).filter (fun x => decide (x < m))).length (((l.take k).filter (fun x => decide (x < m))).map (Value.int .i64))) ∧ Hid (Below w.heap.size w wr)) (fun _ i _ => n - (intOf i).toNat)
  case atStart => exact ⟨0, by omega, rfl, Lib.hid (World.ownsRow_nil _ _ _ _), Lib.hid (Below.refl _ _)⟩
  case round =>
    obtain ⟨k, hk, rfl, O, B⟩ := hrel
    by_cases hlt : k < n
    · have hkl : k < l.length := by have := HL.out; omega
      obtain ⟨b1, o1, rfl, h1⟩ := (HA.out.below B.out).at hkl
      have kl : (k : Int) < (n : Int) := by omega
      have hx : I64 (l.getD k 0) := HA.out.1 _ (getD_mem hkl)
      have HF := Lib.hid (snoc_filter hkl m)
      have hlen : ((l.take k).filter (fun x => decide (x < m))).length ≤ k := Nat.le_trans (List.length_filter_le _ _) (by rw [List.length_take]; omega)
      have hO := O.out
      generalize (l.take k).filter (fun x => decide (x < m)) = p at hO HF hlen
      generalize l.getD k 0 = x at h1 hx HF
      have hBz := B.out.size
      clear O
      by_cases hm : x < m
      · have HF2 := Lib.hid (HF.out.trans (by rw [if_pos hm]))
        clear HF
        go_wp2_with (at_builtin; refine append_ints rfl _ _ rfl w.heap.size _ _ _ rfl (hO.alloc _) (some ⟨wr.heap.size, 0, none⟩) 1 1 [x] rfl rfl (ri_one wr _ hx) (fun e => by cases e) (by have := HN.out; omega) (by simp; omega) ?_; intro v' w' hown' hb' _ _)
        go_roundw
        case rel => exact ⟨k + 1, by omega, by go_num, Lib.hid (by rw [HF2.out, List.length_append]; exact hown'), Lib.hid (B.out.trans (((Below.refl _ _).alloc hBz _).trans hb'))⟩
        case measure => simp [intOf]; omega
      · have HF2 := Lib.hid (HF.out.trans (by rw [if_neg hm, List.append_nil]))
        have HO := Lib.hid hO
        clear HF hO
        go_wp2
        go_roundw
        case rel => exact ⟨k + 1, by omega, by go_num, Lib.hid (by rw [HF2.out]; exact HO.out), B⟩
        case measure => simp [intOf]; omega
    · have hkn : k = n := by omega
      subst hkn
      have hT : l.take k = l := List.take_of_length_le (by have := HL.out; omega)
      have hO := O.out
      rw [hT, HRr.out] at hO
      obtain ⟨A, cc, rfl, hA⟩ := own_shape hO
      obtain ⟨A', cc', e, hri, -, -⟩ := Ri.of_own hO (fun y hy => HA.out.1 y (by rw [← HRr.out] at hy; exact (List.mem_filter.1 hy).1))
      injection e with e1 e2 e3
      subst e1 e3
      have HR := Lib.hid hri
      have HA2 := Lib.hid hA
      clear O hO hri hA hT
      go_wp2
      go_ret
      exact ⟨A, cc, rfl, HA2.out, HR.out, B.out⟩

set_option maxRecDepth 100000 in
set_option maxHeartbeats 2000000 in
theorem refcut_any (l : List Int) (a : Option Addr) (c n : Nat) (m : Int) (w : World) (ha : Ri w a l) (hl : l.length = n) (hn : n ≤ 100000) :
    Calls Try.prog 35 #[.slice a n c, .int .i64 m] w fun e w' => ∃ A cc, e = .returned (.slice A (l.filter (fun x => decide (x < m))).length cc) ∧ (A = none → cc = 0) ∧ Ri w' A (l.filter (fun x => decide (x < m))) ∧ Below w.heap.size w w' := by
  generalize hr0 : l.filter (fun x => decide (x < m)) = r
  have HRr := Lib.hid hr0
  have HA := Lib.hid ha
  have HL := Lib.hid hl
  have n1 : n ≤ 9223372036854775807 := by omega
  have HN := Lib.hid hn
  clear ha hl hn hr0
  go_enter Try.func35, Try.ntmps35
  go_wp2_with fail
  go_loopw [5, 6] (fun v i wr => ∃ k : Nat, k ≤ n ∧ i = .int .i64 k ∧ Hid (wr.ownsRow w.heap.size 3 1 v ((l.take k).filter (fun x => decide (x < m))).length (((l.take k).filter (fun x => decide (x < m))).map (Value.int .i64))) ∧ Hid (Below w.heap.size w wr)) (fun _ i _ => n - (intOf i).toNat)
  case atStart => exact ⟨0, by omega, rfl, Lib.hid (World.ownsRow_nil _ _ _ _), Lib.hid (Below.refl _ _)⟩
  case round =>
    obtain ⟨k, hk, rfl, O, B⟩ := hrel
    by_cases hlt : k < n
    · have hkl : k < l.length := by have := HL.out; omega
      obtain ⟨b1, o1, rfl, h1⟩ := (HA.out.below B.out).at hkl
      have kl : (k : Int) < (n : Int) := by omega
      have hx : I64 (l.getD k 0) := HA.out.1 _ (getD_mem hkl)
      have HF := Lib.hid (snoc_filter hkl m)
      have hlen : ((l.take k).filter (fun x => decide (x < m))).length ≤ k := Nat.le_trans (List.length_filter_le _ _) (by rw [List.length_take]; omega)
      have hO := O.out
      generalize (l.take k).filter (fun x => decide (x < m)) = p at hO HF hlen
      generalize l.getD k 0 = x at h1 hx HF
      have hBz := B.out.size
      clear O
      by_cases hm : x < m
      · have HF2 := Lib.hid (HF.out.trans (by rw [if_pos hm]))
        clear HF
        go_wp2_with (at_builtin; refine append_ints rfl _ _ rfl w.heap.size _ _ _ rfl (hO.alloc _) (some ⟨wr.heap.size, 0, none⟩) 1 1 [x] rfl rfl (ri_one wr _ hx) (fun e => by cases e) (by have := HN.out; omega) (by simp; omega) ?_; intro v' w' hown' hb' _ _)
        go_roundw
        case rel => exact ⟨k + 1, by omega, by go_num, Lib.hid (by rw [HF2.out, List.length_append]; exact hown'), Lib.hid (B.out.trans (((Below.refl _ _).alloc hBz _).trans hb'))⟩
        case measure => simp [intOf]; omega
      · have HF2 := Lib.hid (HF.out.trans (by rw [if_neg hm, List.append_nil]))
        have HO := Lib.hid hO
        clear HF hO
        go_wp2
        go_roundw
        case rel => exact ⟨k + 1, by omega, by go_num, Lib.hid (by rw [HF2.out]; exact HO.out), B⟩
        case measure => simp [intOf]; omega
    · have hkn : k = n := by omega
      subst hkn
      have hT : l.take k = l := List.take_of_length_le (by have := HL.out; omega)
      have hO := O.out
      rw [hT, HRr.out] at hO
      obtain ⟨A, cc, rfl, hA⟩ := own_shape hO
      obtain ⟨A', cc', e, hri, -, -⟩ := Ri.of_own hO (fun y hy => HA.out.1 y (by rw [← HRr.out] at hy; exact (List.mem_filter.1 hy).1))
      injection e with e1 e2 e3
      subst e1 e3
      have HR := Lib.hid hri
      have HA2 := Lib.hid hA
      clear O hO hri hA hT
      go_wp2
      go_ret
      exact ⟨A, cc, rfl, HA2.out, HR.out, B.out⟩

end Go.Proofs.Ytladgfonkolpmaa
