/-
  How many pages a file takes: the program's answer. Nothing of one statement alone stands here.
-/
import Derived.Test.YtladgfonkolpmaaRoomMap
import Derived.Test.YtladgfonkolpmaaInoKnown
namespace Go.Proofs.Ytladgfonkolpmaa
open Go.RowKit Crcm Tagm Inom Roomm Go.ChangeShapes Go.Maps

theorem way_of {s n : Int} (h : toE s n = 0) : tl s n = lv s n ∧ tf s n = fi s n ∧ tc s n = se s n := by unfold tl tf tc; rw [if_pos h, if_pos h, if_pos h]; exact ⟨rfl, rfl, rfl⟩

theorem rsized_any (s : Int) (w : World) : Calls Try.prog 49 #[.int .i64 s] w fun e w' => e = .returned (.bool (decide (Sz s))) ∧ w = w' := by
  have HP := Lib.hid (fun w => per_any s w)
  by_cases h : Sz s
  · rw [per_yes h] at HP
    have hg : 0 < s / 24 := by unfold Sz at h; omega
    rw [decide_eq_true h]
    clear h
    go_enter Try.func49, Try.ntmps49
    go_wp2_with fail
    refine (HP.out _).mono ?_
    rintro e w' ⟨rfl, rfl⟩
    go_wp2
    go_ret
    exact ⟨rfl, rfl⟩
  · rw [per_no h] at HP
    rw [decide_eq_false h]
    clear h
    go_enter Try.func49, Try.ntmps49
    go_wp2_with fail
    refine (HP.out _).mono ?_
    rintro e w' ⟨rfl, rfl⟩
    go_wp2
    go_ret
    exact ⟨rfl, rfl⟩

set_option maxRecDepth 100000 in
set_option maxHeartbeats 1000000 in
theorem file_no (s : Int) (l : List Int) (a : Option Addr) (c n : Nat) (w : World) (ha : Ri w a l) (hl : l.length = n) (h : ¬ (Sz s ∧ ris l)) :
    Calls Try.prog 24 #[.int .i64 s, .slice a n c] w fun e w' => e = .returned (.tuple #[.int .i64 0, .int .i64 1]) ∧ Below w.heap.size w w' := by
  have HS := Lib.hid (fun w => rsized_any s w)
  have HR := Lib.hid (rises_any l a c n w ha hl)
  clear ha hl
  by_cases hs : Sz s
  · have hr : ¬ ris l := fun g => h ⟨hs, g⟩
    rw [decide_eq_true hs] at HS
    rw [decide_eq_false hr] at HR
    clear h hs hr
    go_enter Try.func24, Try.ntmps24
    go_wp2_with fail
    refine (HS.out _).mono ?_
    rintro e w' ⟨rfl, rfl⟩
    go_wp2_with fail
    refine HR.out.mono ?_
    rintro e w' ⟨rfl, hb⟩
    go_wp2
    go_ret2
    exact ⟨rfl, hb⟩
  · rw [decide_eq_false hs] at HS
    clear h hs HR
    go_enter Try.func24, Try.ntmps24
    go_wp2_with fail
    refine (HS.out _).mono ?_
    rintro e w' ⟨rfl, rfl⟩
    go_wp2
    go_ret2
    exact ⟨rfl, Below.refl _ _⟩

set_option maxRecDepth 100000 in
set_option maxHeartbeats 4000000 in
theorem file_yes (s : Int) (l : List Int) (a : Option Addr) (c n : Nat) (w : World) (ha : Ri w a l) (hl : l.length = n) (h : Sz s ∧ ris l) (hn : n ≤ 100000) :
    Calls Try.prog 24 #[.int .i64 s, .slice a n c] w fun e w' => e = .returned (.tuple #[.int .i64 (fN s l), .int .i64 (fE s l)]) ∧ Below w.heap.size w w' := by
  have HS := Lib.hid (fun w => rsized_any s w)
  have HR := Lib.hid (rises_any l a c n w ha hl)
  have HT := Lib.hid (fun n w => to_any s n w)
  rw [decide_eq_true h.1] at HS
  rw [decide_eq_true h.2] at HR
  have HA := Lib.hid ha
  have HL := Lib.hid hl
  have H := Lib.hid h
  have n1 : n ≤ 9223372036854775807 := by omega
  have hmm := @run_makeMap Try.prog
  unfold wy at HT
  clear ha hl h
  have HN := Lib.hid hn
  clear hn
  go_enter Try.func24, Try.ntmps24
  go_wp2_with fail
  refine (HS.out _).mono ?_
  rintro e w' ⟨rfl, rfl⟩
  go_wp2_with fail
  refine HR.out.mono ?_
  rintro e w1 ⟨rfl, hb⟩
  have HB := Lib.hid (hb.alloc hb.size (.map #[] 0))
  have HM := Lib.hid (MapAt.new w1 s l)
  have HZ := Lib.hid hb.size
  clear hb HR HS
  go_wp2_with fail
  go_loopw [7, 23] (fun d i wr => ∃ k : Nat, k ≤ n ∧ i = .int .i64 k ∧ d = .int .i64 (dd s (l.take k) : Nat) ∧ Hid (Below w.heap.size w wr) ∧ Hid (MapAt wr w1.heap.size s l k) ∧ Hid (∀ x ∈ l.take k, toE s x = 0)) (fun _ i _ => n - (intOf i).toNat)
  case atStart => exact ⟨0, by omega, rfl, rfl, HB, HM, Lib.hid (fun x hx => by simp at hx)⟩
  case round =>
    obtain ⟨k, hk, rfl, rfl, B, M, E⟩ := hrel
    by_cases hlt : k < n
    · have hkl : k < l.length := by have := HL.out; omega
      obtain ⟨b1, o1, rfl, h1⟩ := (HA.out.below B.out).at hkl
      have kl : (k : Int) < (n : Int) := by omega
      obtain ⟨x, hx⟩ : ∃ x, l.getD k 0 = x := ⟨_, rfl⟩
      have HX := Lib.hid hx
      rw [hx] at h1
      have HT2 := Lib.hid (HT.out x)
      by_cases he : toE s x = 0
      · have hw := way_of he
        rw [hw.1, hw.2.1, hw.2.2, he] at HT2
        have E' : Hid (∀ y ∈ l.take (k + 1), toE s y = 0) := Lib.hid (fun y hy => by
          rw [take_getD hkl, List.mem_append] at hy
          rcases hy with hy | hy
          · exact E.out y hy
          · rw [List.mem_singleton.1 hy, hx]; exact he)
        have hfi := fi_any he
        have hD : dd s (l.take (k + 1)) = if lv s x = 2 then 1 else dd s (l.take k) := by rw [take_getD hkl, dd_snoc, hx]
        have hdl := dd_le s (l.take k)
        rcases lv_cases (s := s) (n := x) with hv | hv | hv
        · have HD : Hid (dd s (l.take (k + 1)) = dd s (l.take k)) := Lib.hid (by rw [hD, if_neg (by omega)])
          have HK := Lib.hid (fun W (q : MapAt W w1.heap.size s l k) => MapAt.skip q hkl (by rw [hx]; exact hv))
          rw [hv] at HT2
          generalize fi s x = a2 at HT2 hfi
          generalize se s x = a3 at HT2
          generalize dd s (l.take k) = d at HD hdl
          clear he hx hkl hw hD hv
          go_wp2_with fail
          refine (HT2.out _).mono ?_
          rintro e w2 ⟨rfl, hb2⟩
          have B2 := Lib.hid (B.out.trans (hb2.mono B.out.size))
          have M2 := Lib.hid (M.out.below hb2)
          have B3 := Lib.hid (B2.out.alloc B2.out.size (.cells #[.int .i64 0, .int .i64 a2, .int .i64 a3] 59))
          have M3 := Lib.hid (M2.out.below ((Below.refl _ _).alloc (Nat.le_refl _) (.cells #[.int .i64 0, .int .i64 a2, .int .i64 a3] 59)))
          have c0 := (Blk.new w2 59 #[.int .i64 0, .int .i64 a2, .int .i64 a3]).cell 0
          simp only [List.getElem?_toArray, List.getElem?_cons_zero] at c0
          clear hb2
          go_wp2
          go_roundw
          case rel => exact ⟨k + 1, by omega, by go_num, by rw [HD.out], B3, Lib.hid (HK.out _ M3.out), E'⟩
          case measure => simp [intOf]; omega
        · have HD : Hid (dd s (l.take (k + 1)) = dd s (l.take k)) := Lib.hid (by rw [hD, if_neg (by omega)])
          have HK := Lib.hid (fun W (q : MapAt W w1.heap.size s l k) => MapAt.one q hkl (by unfold maxLen; have := HN.out; omega) (by rw [hx]; exact hv))
          rw [hv] at HT2
          generalize fi s x = a2 at HT2 hfi
          generalize se s x = a3 at HT2
          generalize dd s (l.take k) = d at HD hdl
          clear he hx hkl hw hD hv
          go_wp2_with fail
          refine (HT2.out _).mono ?_
          rintro e w2 ⟨rfl, hb2⟩
          have B2 := Lib.hid (B.out.trans (hb2.mono B.out.size))
          have M2 := Lib.hid (M.out.below hb2)
          have B3 := Lib.hid (B2.out.alloc B2.out.size (.cells #[.int .i64 1, .int .i64 a2, .int .i64 a3] 59))
          have M3 := Lib.hid (M2.out.below ((Below.refl _ _).alloc (Nat.le_refl _) (.cells #[.int .i64 1, .int .i64 a2, .int .i64 a3] 59)))
          have c0 := (Blk.new w2 59 #[.int .i64 1, .int .i64 a2, .int .i64 a3]).cell 0
          simp only [List.getElem?_toArray, List.getElem?_cons_zero] at c0
          clear hb2
          go_wp2_with fail
          obtain ⟨y, v0, st, w3, w4, q1, q1', q2, q3, q4, q5⟩ := HK.out (w2.alloc (.cells #[.int .i64 1, .int .i64 a2, .int .i64 a3] 59)).drew M3.out
          have HM4 := Lib.hid q4
          have HG := Lib.hid q5
          unfold wv at q1 q1' q2
          clear q4 q5
          go_region
          all_goals
            clear q1 q1' q2 q3 c0
            go_wp2
            go_roundw
            case rel => exact ⟨k + 1, by omega, by go_num, by rw [HD.out], Lib.hid (B3.out.drew.grown HG.out (by have := B3.out.size; simpa using this) (fun j hj => by cases hj; exact HZ.out)), HM4, E'⟩
            case measure => simp [intOf]; omega
        · have HD : Hid (dd s (l.take (k + 1)) = 1) := Lib.hid (by rw [hD, if_pos hv])
          obtain ⟨g, hg⟩ : ∃ g : Nat, fi s x = (g : Int) := ⟨(fi s x).toNat, by omega⟩
          have HK := Lib.hid (fun W (q : MapAt W w1.heap.size s l k) => MapAt.two q hkl (by unfold maxLen; have := HN.out; omega) (g := g) (by rw [hx]; exact hv) (by rw [hx]; exact hg) (by omega))
          rw [hv] at HT2
          rw [hg] at HT2 hfi
          clear hg
          generalize se s x = a3 at HT2
          generalize dd s (l.take k) = d at HD hdl
          clear he hx hkl hw hD hv
          go_wp2_with fail
          refine (HT2.out _).mono ?_
          rintro e w2 ⟨rfl, hb2⟩
          have B2 := Lib.hid (B.out.trans (hb2.mono B.out.size))
          have M2 := Lib.hid (M.out.below hb2)
          have B3 := Lib.hid (B2.out.alloc B2.out.size (.cells #[.int .i64 2, .int .i64 g, .int .i64 a3] 59))
          have M3 := Lib.hid (M2.out.below ((Below.refl _ _).alloc (Nat.le_refl _) (.cells #[.int .i64 2, .int .i64 g, .int .i64 a3] 59)))
          have c0 := (Blk.new w2 59 #[.int .i64 2, .int .i64 g, .int .i64 a3]).cell 0
          have c1 := (Blk.new w2 59 #[.int .i64 2, .int .i64 g, .int .i64 a3]).cell 1
          simp only [List.getElem?_toArray, List.getElem?_cons_zero, List.getElem?_cons_succ] at c0 c1
          clear hb2
          go_wp2_with fail
          obtain ⟨y, v0, st, w3, w4, q1, q1', q2, q3, q4, q5⟩ := HK.out (w2.alloc (.cells #[.int .i64 2, .int .i64 g, .int .i64 a3] 59)).drew M3.out
          have HM4 := Lib.hid q4
          have HG := Lib.hid q5
          unfold wv at q1 q1' q2
          clear q4 q5
          go_region
          all_goals
            clear q1 q1' q2 q3 c0 c1
            go_wp2
            go_roundw
            case rel => exact ⟨k + 1, by omega, by go_num, by rw [HD.out]; rfl, Lib.hid (B3.out.drew.grown HG.out (by have := B3.out.size; simpa using this) (fun j hj => by cases hj; exact HZ.out)), HM4, E'⟩
            case measure => simp [intOf]; omega
      · have HE : Hid (fE s l = 52 ∧ fN s l = 0 ∧ toE s x = 52) := Lib.hid (by
          have hm : x ∈ l := by rw [← hx]; exact getD_mem hkl
          have hb : ¬ ∀ n ∈ l, toE s n = 0 := fun g => he (g x hm)
          refine ⟨fE_bad H.out hb, fN_bad H.out hb, ?_⟩
          unfold toE at he ⊢
          rw [if_pos H.out.1] at he ⊢
          split at he <;> simp_all)
        rw [HE.out.2.2] at HT2
        generalize tl s x = a1 at HT2
        generalize tf s x = a2 at HT2
        generalize tc s x = a3 at HT2
        clear he hx hkl
        go_wp2_with fail
        refine (HT2.out _).mono ?_
        rintro e w2 ⟨rfl, hb2⟩
        have B2 := Lib.hid (B.out.trans (hb2.mono B.out.size))
        clear hb2
        go_wp2
        go_ret2
        exact ⟨by rw [HE.out.1, HE.out.2.1]; rfl, B2.out.alloc B2.out.size _⟩
    · have hkn : k = n := by omega
      subst hkn
      have hT : l.take k = l := List.take_of_length_le (by have := HL.out; omega)
      have HO : Hid (fE s l = 0 ∧ fN s l = ((l.length + (l1 s l + Roomm.k2 s l) + dd s l : Nat) : Int)) := Lib.hid (by
        have hE := E.out
        rw [hT] at hE
        exact ⟨fE_ok H.out hE, fN_ok H.out hE⟩)
      obtain ⟨D, hown, hsz, -, -⟩ := M.out
      rw [hT] at hsz
      rw [hT]
      have HSz := Lib.hid hsz
      have hle := hown.size_le
      have HO2 := Lib.hid hown
      have hn' := HN.out
      have hdl := dd_le s l
      generalize dd s l = d at HO hdl
      generalize l1 s l + Roomm.k2 s l = q at HO HSz
      have hlen := fun ty => hown.len Try.underlying75 ty
      generalize Maps.size D = z at HSz hle hlen
      clear hown hsz hT
      have eq : ((l.length + q + d : Nat) : Int) = (k : Int) + z + d := by have := HL.out; have := HSz.out; omega
      have EQ := Lib.hid eq
      clear eq
      go_wp2
      go_ret2
      exact ⟨by rw [HO.out.1, HO.out.2, EQ.out]; rfl, B.out⟩

theorem file_any (s : Int) (l : List Int) (a : Option Addr) (c n : Nat) (w : World) (ha : Ri w a l) (hl : l.length = n) (hn : n ≤ 100000) :
    Calls Try.prog 24 #[.int .i64 s, .slice a n c] w fun e w' => e = .returned (.tuple #[.int .i64 (fN s l), .int .i64 (fE s l)]) ∧ Below w.heap.size w w' := by
  by_cases h : Sz s ∧ ris l
  · exact file_yes s l a c n w ha hl h hn
  · rw [fE_no h, fN_no h]; exact file_no s l a c n w ha hl h
end Go.Proofs.Ytladgfonkolpmaa
