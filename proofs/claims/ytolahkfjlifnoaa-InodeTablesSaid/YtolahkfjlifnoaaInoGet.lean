/-
  Inodes got from table pages and put there: the program's answers.
-/
import Derived.Test.YtolahkfjlifnoaaInoReadW
namespace Inom
open Go Crcm Tagm
theorem splice_same {L cs : List Int} {o : Nat} (h : o + cs.length ≤ L.length) : ((splice L o cs).drop o).take cs.length = cs := by
  unfold splice
  rw [List.drop_append, List.length_take, Nat.min_eq_left (by omega), Nat.sub_self, List.drop_zero, List.drop_of_length_le (by rw [List.length_take]; omega), List.nil_append, List.take_append_of_le_length (Nat.le_refl _), List.take_of_length_le (Nat.le_refl _)]
theorem splice_other {L cs : List Int} {o p n : Nat} (h : o + cs.length ≤ L.length) (hd : p + n ≤ o ∨ o + cs.length ≤ p) : ((splice L o cs).drop p).take n = (L.drop p).take n := by
  apply List.ext_getElem?
  intro i
  rw [List.getElem?_take, List.getElem?_take]
  by_cases hi : i < n
  · rw [if_pos hi, if_pos hi, List.getElem?_drop, List.getElem?_drop]
    unfold splice
    rcases hd with hlt | hgt
    · rw [List.getElem?_append_left (by rw [List.length_take]; omega), List.getElem?_take, if_pos (by omega)]
    · rw [List.getElem?_append_right (by rw [List.length_take]; omega), List.length_take, Nat.min_eq_left (by omega), List.getElem?_append_right (by omega), List.getElem?_drop]
      congr 1
      omega
  · rw [if_neg hi, if_neg hi]
theorem splice_u8 {L cs : List Int} {o : Nat} (h : ∀ b ∈ L, U8 b) (h2 : ∀ b ∈ cs, U8 b) : ∀ b ∈ splice L o cs, U8 b := by
  intro b hb
  unfold splice at hb
  rcases List.mem_append.1 hb with g | g
  · exact h b (List.mem_of_mem_take g)
  · rcases List.mem_append.1 g with g | g
    · exact h2 b g
    · exact h b (List.mem_of_mem_drop g)
end Inom
namespace Go.Proofs.Ytolahkfjlifnoaa
open Go.RowKit Crcm Tagm Inom Go.ChangeShapes

def rdI (l : List Int) : Ind := if nat_ l 1 1 = 0 ∧ IR (rd l) then rd l else zi
def rdE (l : List Int) : Int := if nat_ l 1 1 = 0 ∧ IR (rd l) then 0 else 51
theorem rdV_eq (l : List Int) : rdV l = .tuple #[iv (rdI l), .int .i64 (rdE l)] := by
  unfold rdV rdI rdE
  by_cases h : nat_ l 1 1 = 0 ∧ IR (rd l)
  · rw [if_pos h, if_pos h, if_pos h]
  · rw [if_neg h, if_neg h, if_neg h]

/-- a table page of so many bytes has an inode of that number -/
def Inn (n : Nat) (K : Int) : Prop := 0 ≤ K ∧ K < per n
instance (n : Nat) (K : Int) : Decidable (Inn n K) := by unfold Inn; infer_instance
theorem in_any (a : Option Addr) (n cap : Nat) (K : Int) (w : World) : Calls Try.prog 66 #[.slice a n cap, .int .i64 K] w fun e w' => e = .returned (.bool (decide (Inn n K))) ∧ w = w' := by
  have HP := Lib.hid (fun w => per_any n w)
  by_cases h0 : K < 0
  · have e : Hid (decide (Inn n K) = false) := Lib.hid (decide_eq_false fun h => by have := h.1; omega)
    go_enter Try.func66, Try.ntmps66
    go_wp2
    go_ret
    exact ⟨ret_bool e.out.symm, rfl⟩
  · have e : Hid (decide (Inn n K) = decide (K < per n)) := Lib.hid (by rw [decide_eq_decide]; unfold Inn; constructor; exact fun h => h.2; exact fun h => ⟨by omega, h⟩)
    generalize per n = p at HP e
    go_enter Try.func66, Try.ntmps66
    go_wp2_with fail
    refine (HP.out _).mono ?_
    rintro r w' ⟨rfl, rfl⟩
    go_wp2
    go_ret
    exact ⟨ret_bool e.out.symm, rfl⟩
theorem Inn.sz {n : Nat} {K : Int} (h : Inn n K) : ∃ k : Nat, K = k ∧ k * 24 + 24 ≤ n ∧ n ≤ 512 := by
  obtain ⟨h0, h1⟩ := h
  obtain ⟨k, rfl⟩ := Int.eq_ofNat_of_zero_le h0
  by_cases hs : Sz n
  · rw [per_yes hs] at h1
    unfold Sz at hs
    exact ⟨k, rfl, by omega, by omega⟩
  · rw [per_no hs] at h1; omega

def gI (l : List Int) (K : Int) : Ind := if Inn l.length K then rdI ((l.drop (K.toNat * 24)).take 24) else zi
def gE (l : List Int) (K : Int) : Int := if Inn l.length K then rdE ((l.drop (K.toNat * 24)).take 24) else 1

set_option maxRecDepth 100000 in
set_option maxHeartbeats 1000000 in
theorem iget_any (a : Option Addr) (n cap : Nat) (K : Int) (l : List Int) (w : World) (hr : Rw w a l) (hn : l.length = n) (hc : n ≤ cap) :
    Calls Try.prog 27 #[.slice a n cap, .int .i64 K] w fun e w' => e = .returned (.tuple #[iv (gI l K), .int .i64 (gE l K)]) ∧ Below w.heap.size w w' := by
  subst hn
  have HI := Lib.hid (fun w => in_any a l.length cap K w)
  by_cases h : Inn l.length K
  · rw [decide_eq_true h] at HI
    have eI : gI l K = rdI ((l.drop (K.toNat * 24)).take 24) := if_pos h
    have eE : gE l K = rdE ((l.drop (K.toNat * 24)).take 24) := if_pos h
    obtain ⟨k, rfl, hk, hk2⟩ := h.sz
    rw [eI, eE, Int.toNat_natCast]
    obtain ⟨b, off, rfl⟩ := hr.addr (by omega)
    have hq : Rw w (some ⟨b, off + k * 24, none⟩) ((l.drop (k * 24)).take 24) := (hr.drop (k * 24) (a' := some ⟨b, off + k * 24, none⟩) (fun b' off' e _ => by injection e with e; injection e with e1 e2; subst e1 e2; rfl)).take 24
    have hb0 : Below w.heap.size w (w.alloc (.cells #[.int .i64 0, .int .i64 0, .int .i64 0, .int .i64 0, .int .i64 0, .int .i64 0, .int .i64 0, .int .i64 0, .int .i64 0, .int .i64 0, .int .i64 0] 24)) := (Below.refl _ _).alloc (Nat.le_refl _) _
    have hx := iread_24 b (off + k * 24) (cap - k * 24) _ _ (hq.below hb0) (by rw [List.length_take, List.length_drop]; omega) (by omega)
    rw [rdV_eq] at hx
    have HX := Lib.hid hx
    have HB0 := Lib.hid hb0
    have A0 := Lib.hid (Blk.new w 24 #[.int .i64 0, .int .i64 0, .int .i64 0, .int .i64 0, .int .i64 0, .int .i64 0, .int .i64 0, .int .i64 0, .int .i64 0, .int .i64 0, .int .i64 0])
    generalize rdI ((l.drop (k * 24)).take 24) = i at HX ⊢
    generalize rdE ((l.drop (k * 24)).take 24) = f at HX ⊢
    clear hx hb0 hq eI eE h hr
    obtain ⟨ak, al, as_, a0, a1, a2, a3, a4, a5, asg, adb⟩ := i
    unfold iv at HX
    have es : (k + 1) * 24 - k * 24 = 24 := by omega
    have HES := Lib.hid es
    clear es
    go_enter Try.func27, Try.ntmps27
    go_wp2_with fail
    refine (HI.out _).mono ?_
    rintro e w' ⟨rfl, rfl⟩
    go_wp2_with fail
    rw [HES.out]
    refine HX.out.mono ?_
    rintro e w1 ⟨rfl, hb⟩
    have hA := A0.out.below hb A0.out.lt
    have HA := Lib.hid hA
    have HB := Lib.hid (HB0.out.trans (hb.mono (by simp)))
    obtain ⟨e0, e1, e2, e3, e4, e5, e6, e7, e8, e9, e10⟩ := hA.eleven
    have hf := fun j => hA.frozen j
    clear hA hb A0 HB0 HX HI
    go_wp2
    obtain ⟨x0, x1, x2, x3, x4, x5, x6, x7, x8, x9, x10⟩ := (ovI_blk (i := ⟨ak, al, as_, a0, a1, a2, a3, a4, a5, asg, adb⟩) HA.out).eleven
    have XB := ovI_below (i := ⟨ak, al, as_, a0, a1, a2, a3, a4, a5, asg, adb⟩) HB.out (Nat.le_refl w.heap.size)
    unfold ovI at x0 x1 x2 x3 x4 x5 x6 x7 x8 x9 x10 XB
    simp only at x0 x1 x2 x3 x4 x5 x6 x7 x8 x9 x10 XB
    exact bodyPost_ret (v := .tuple #[iv ⟨ak, al, as_, a0, a1, a2, a3, a4, a5, asg, adb⟩, .int .i64 f]) (by simp [iv, results, Try.results27, go_sem, x0, x1, x2, x3, x4, x5, x6, x7, x8, x9, x10]) rfl ⟨rfl, XB⟩
  · rw [decide_eq_false h] at HI
    have eI : gI l K = zi := if_neg h
    have eE : gE l K = 1 := if_neg h
    rw [eI, eE]
    clear eI eE h hr hc
    unfold iv zi
    go_enter Try.func27, Try.ntmps27
    go_wp2_with fail
    refine (HI.out _).mono ?_
    rintro e w' ⟨rfl, rfl⟩
    go_wp2
    exact bodyPost_ret (v := .tuple #[.agg #[.int .i64 0, .int .i64 0, .int .i64 0, .int .i64 0, .int .i64 0, .int .i64 0, .int .i64 0, .int .i64 0, .int .i64 0, .int .i64 0, .int .i64 0], .int .i64 1]) (by simp [results, Try.results27, go_sem]) rfl ⟨rfl, (Below.refl _ _).alloc (Nat.le_refl _) _⟩

set_option maxRecDepth 100000 in
set_option maxHeartbeats 1000000 in
theorem iputs_out (a : Option Addr) (n cap : Nat) (K : Int) (i : Ind) (w : World) (h : ¬ Inn n K) :
    Calls Try.prog 29 #[.slice a n cap, .int .i64 K, iv i] w fun e w' => e = .returned (.tuple #[.slice none 0 0, .int .i64 1]) ∧ Below w.heap.size w w' := by
  have HI := Lib.hid (fun w => in_any a n cap K w)
  rw [decide_eq_false h] at HI
  clear h
  unfold iv
  go_enter Try.func29, Try.ntmps29
  go_wp2_with fail
  refine (HI.out _).mono ?_
  rintro e w' ⟨rfl, rfl⟩
  go_wp2
  go_ret2
  exact ⟨rfl, (Below.refl _ _).alloc (Nat.le_refl _) _⟩

set_option maxRecDepth 100000 in
set_option maxHeartbeats 1000000 in
theorem iputs_no (a : Option Addr) (n cap : Nat) (K : Int) (i : Ind) (w : World) (h : Inn n K) (h2 : ¬ IR i) :
    Calls Try.prog 29 #[.slice a n cap, .int .i64 K, iv i] w fun e w' => e = .returned (.tuple #[.slice none 0 0, .int .i64 51]) ∧ Below w.heap.size w w' := by
  have HI := Lib.hid (fun w => in_any a n cap K w)
  rw [decide_eq_true h] at HI
  have HW := Lib.hid (fun w => iwrite_no i w h2)
  clear h h2
  unfold iv at *
  go_enter Try.func29, Try.ntmps29
  go_wp2_with fail
  refine (HI.out _).mono ?_
  rintro e w' ⟨rfl, rfl⟩
  go_wp2_with fail
  refine (HW.out _).mono ?_
  rintro e w1 ⟨rfl, hb⟩
  go_wp2
  go_ret2
  exact ⟨rfl, ((Below.refl _ _).alloc (Nat.le_refl _) _).trans (hb.mono (by simp))⟩

set_option maxRecDepth 100000 in
set_option maxHeartbeats 1000000 in
theorem iputs_yes (a : Option Addr) (cap k : Nat) (i : Ind) (l : List Int) (w : World) (hr : Rw w a l) (h : Inn l.length k) (h2 : IR i) (hk : k * 24 + 24 ≤ l.length) (hk2 : l.length ≤ 512) :
    Calls Try.prog 29 #[.slice a l.length cap, .int .i64 k, iv i] w fun e w' => (∃ g cc, e = .returned (.tuple #[.slice (some ⟨g, 0, none⟩) l.length cc, .int .i64 0]) ∧ l.length ≤ cc ∧ Rw w' (some ⟨g, 0, none⟩) (splice l (k * 24) (wb i))) ∧ Below w.heap.size w w' := by
  have HI := Lib.hid (fun w => in_any a l.length cap k w)
  rw [decide_eq_true h] at HI
  obtain ⟨b, off, rfl⟩ := hr.addr (by omega)
  have HW := Lib.hid (fun w => iwrite_yes i w h2)
  obtain ⟨n, hn⟩ : ∃ n, l.length = n := ⟨_, rfl⟩
  rw [hn] at HI hk hk2 ⊢
  have HN := Lib.hid hn
  have HR := Lib.hid hr
  clear h h2 hr hn
  unfold iv at *
  go_enter Try.func29, Try.ntmps29
  go_wp2_with fail
  refine (HI.out _).mono ?_
  rintro e w' ⟨rfl, rfl⟩
  go_wp2_with fail
  refine (HW.out _).mono ?_
  rintro e w1 ⟨v, rfl, hown, hb⟩
  have hb1 := ((Below.refl w.heap.size w).alloc (Nat.le_refl _) (.cells #[.int .i64 i.k, .int .i64 i.l, .int .i64 i.s, .int .i64 i.d0, .int .i64 i.d1, .int .i64 i.d2, .int .i64 i.d3, .int .i64 i.d4, .int .i64 i.d5, .int .i64 i.sg, .int .i64 i.db] 24)).trans (hb.mono (by simp))
  obtain ⟨a2, cap2, rfl, hrw2, hlen2, hcap2⟩ := Rw.of_own hown (wb_U8 i)
  obtain ⟨b2, o2, rfl⟩ := hrw2.addr (by rw [hlen2]; omega)
  have HB1 := Lib.hid hb1
  have HR2 := Lib.hid hrw2
  have HC := Lib.hid (bclone_any n cap b off l w1 (HR.out.below hb1) HN.out (by omega))
  clear hb1 hrw2 hlen2 hcap2 hown hb HW HI
  go_wp2_with fail
  refine HC.out.mono ?_
  rintro e w2 ⟨⟨g, cc, rfl, hcc, hg, hown⟩, hb⟩
  obtain ⟨w3, kk, hrun, hown3, hbel3⟩ := run_lay hown (k * 24) (n - k * 24) (cc - k * 24) 24 cap2 b2 o2 (wb i) (HR2.out.below hb) (wb_len i) (by omega)
  have HB3 := Lib.hid (hbel3 _ _ (HB1.out.trans (hb.mono HB1.out.size)) HB1.out.size)
  have e3 : splice l (k * 24) ((wb i).take (n - k * 24)) = splice l (k * 24) (wb i) := by
    rw [List.take_of_length_le (by rw [wb_len]; omega)]
  rw [e3] at hown3
  have HO3 := Lib.hid hown3
  clear hown hb HC hown3 hbel3 e3
  go_wp2
  go_ret2
  obtain ⟨a4, cap4, e4, hrw4, hlen4, hcap4⟩ := Rw.of_own HO3.out (splice_u8 HR.out.1 (wb_U8 i))
  injection e4 with f1 f2 f3
  subst f1 f3
  exact ⟨⟨g, cc, rfl, hcc, hrw4⟩, HB3.out⟩

end Go.Proofs.Ytolahkfjlifnoaa
