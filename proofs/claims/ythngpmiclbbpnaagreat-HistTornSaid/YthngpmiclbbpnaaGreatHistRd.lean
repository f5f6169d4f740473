/-
  Operations' bytes read: hist.Read. Nothing of one statement alone stands here.
-/
import Derived.Test.YthngpmiclbbpnaaGreatHistS
import Derived.Deep.RegionHeld3
namespace Go.Proofs.YthngpmiclbbpnaaGreat
open Go.RowKit Crcm Tagm Go.ChangeShapes

/-- what bytes read as: an error, or operations -/
def rdE (l : List Int) : Int :=
  if 8388608 < l.length then 2 else if l.length < 12 then 21 else if le 4 (uw (mo 0 (l.take (l.length - 4)))) = l.drop (l.length - 4) then (if (allB (l.take (l.length - 4))).isSome then 0 else 50) else 21
def rdL (l : List Int) : List Ho := if rdE l = 0 then (allB (l.take (l.length - 4))).getD [] else []
theorem rdE_long {l : List Int} (h : 8388608 < l.length) : rdE l = 2 := if_pos h
theorem rdE_short {l : List Int} (h : ¬ 8388608 < l.length) (h2 : l.length < 12) : rdE l = 21 := by unfold rdE; rw [if_neg h, if_pos h2]
theorem rdE_sum {l : List Int} (h : ¬ 8388608 < l.length) (h2 : ¬ l.length < 12) : rdE l = if le 4 (uw (mo 0 (l.take (l.length - 4)))) = l.drop (l.length - 4) then (if (allB (l.take (l.length - 4))).isSome then 0 else 50) else 21 := by unfold rdE; rw [if_neg h, if_neg h2]
/-- what hist.Read comes to -/
def RdP (w : World) (l : List Int) (e : Ending) (w' : World) : Prop :=
  ∃ v, e = .returned (.tuple #[v, .int .i64 (rdE l)]) ∧ Rt w' w.heap.size v (rdL l) ∧ Below w.heap.size w w'
theorem RdP.no {w w' : World} {l : List Int} {x : Int} (h : rdE l = x) (hx : x ≠ 0) (hb : Below w.heap.size w w') : RdP w l (.returned (.tuple #[.slice none 0 0, .int .i64 x])) w' :=
  ⟨_, by rw [h], by unfold rdL; rw [if_neg (by rw [h]; exact hx)]; exact Rt.nil _ _, hb⟩

theorem RdP.yes {w w' : World} {l : List Int} {v : Value} (h : rdE l = 0) (hr : Rt w' w.heap.size v (rdL l)) (hb : Below w.heap.size w w') : RdP w l (.returned (.tuple #[v, .int .i64 0])) w' := ⟨v, by rw [h], hr, hb⟩

/-- a number of four bytes onto no bytes -/
theorem hnum4 (Y : Int) (hY : U64 Y) (W : World) : Calls Tryz.prog 14 #[.slice none 0 0, .int .u64 Y, .int .i64 4] W fun e w' => (∃ aa cc, e = .returned (.slice aa 4 cc) ∧ Rw w' aa (le 4 Y)) ∧ Below W.heap.size W w' := by
  have h := hnumber_any W.heap.size (.slice none 0 0) 0 [] Y 4 W hY (by omega) (by omega) (World.ownsRow_nil W _ _ _) (Nat.le_refl _)
  refine h.mono ?_
  rintro e w' ⟨v', rfl, ho, hg⟩
  obtain ⟨g, cap, rfl, hrw, hl, -⟩ := Rw.of_own ho (by simpa using le_U8 4 Y)
  exact ⟨⟨g, cap, by simp, by simpa using hrw⟩, hg.below (World.ownsRow_nil W W.heap.size 5 1) (Nat.le_refl _)⟩

set_option maxRecDepth 100000 in
set_option maxHeartbeats 4000000 in
theorem hread_any (a : Option Addr) (n c : Nat) (l : List Int) (w : World) (hr : Rw w a l) (hl : l.length = n) (hc : n ≤ c) (hm : c ≤ maxLen) : Calls Tryz.prog 9 #[.slice a n c] w (RdP w l) := by
  have n9 : n ≤ 9223372036854775807 := by unfold maxLen at hm; omega
  by_cases h1 : 8388608 < n
  · have HE := Lib.hid (rdE_long (l := l) (by omega))
    have t1 : (8388608 : Int) < (n : Int) := by omega
    clear hr hl hc hm h1
    go_enter Tryz.func9, Tryz.ntmps9
    go_wp2_with fail
    go_ret2
    exact RdP.no HE.out (by omega) (Below.refl _ _)
  have t1 : ¬ (8388608 : Int) < (n : Int) := by omega
  by_cases h2 : n < 12
  · have HE := Lib.hid (rdE_short (l := l) (by omega) (by omega))
    have t2 : (n : Int) < 12 := by omega
    clear hr hl hc hm h1 h2
    go_enter Tryz.func9, Tryz.ntmps9
    go_wp2_with fail
    go_ret2
    exact RdP.no HE.out (by omega) (Below.refl _ _)
  have t2 : ¬ (n : Int) < 12 := by omega
  obtain ⟨m, hmn⟩ : ∃ m, n = m + 4 := ⟨n - 4, by omega⟩
  have em : IntKind.i64.wrap ((n : Int) - 4) = (m : Int) := (IntWalk.i64_in _ (by omega)).trans (by omega)
  have hE := rdE_sum (l := l) (by omega) (by omega)
  rw [hl, show n - 4 = m by omega] at hE
  have e1 := cutH a n c m (by omega)
  have e2 := restH a n c m (by omega)
  rw [show n - m = 4 by omega] at e2
  have HT4 : Hid ((l.drop m).length = 4) := Lib.hid (by rw [List.length_drop]; omega)
  have HTm : Hid ((l.take m).length = m) := Lib.hid (by rw [List.length_take]; omega)
  have HRt := Lib.hid (hr.take m)
  have HRd := Lib.hid (hr.mv m c (by omega))
  have hmc : Hid (m ≤ c ∧ c ≤ maxLen) := Lib.hid ⟨by omega, hm⟩
  obtain ⟨Y, hY⟩ : ∃ Y, uw (mo 0 (l.take m)) = Y := ⟨_, rfl⟩
  have hx2 : U64 Y := by rw [← hY]; exact uw_U64 _
  have HSum := Lib.hid (fun (W : World) (hb : Below w.heap.size w W) => sum_len (cap := c) (HRt.out.below hb) HTm.out)
  obtain ⟨M, hM⟩ : ∃ M, mo 0 (l.take m) = M := ⟨_, rfl⟩
  rw [hM] at HSum hY
  have hX2 : IntKind.u64.wrap M = Y := hY
  rw [hM] at hE
  rw [show uw M = Y from hY] at hE
  have HNm := Lib.hid (fun (W : World) (hb : Below w.heap.size w W) => (hnum4 Y hx2 W).mono (R' := fun e w' => (∃ aa cc, e = .returned (.slice aa 4 cc) ∧ Rw w' aa (le 4 Y)) ∧ Below w.heap.size w w') (fun e w' h => ⟨h.1, hb.trans (h.2.mono hb.size)⟩))
  have HEq := Lib.hid (fun (W : World) (aa : Option Addr) (cc : Nat) (hb : Below w.heap.size w W) (h : Rw W aa (le 4 Y)) => equal_any aa (mv a c m) cc (c - m) 4 4 (le 4 Y) (l.drop m) W h (HRd.out.below hb) (le_length _ _) HT4.out)
  have HRed := Lib.hid (fun (W : World) (hb : Below w.heap.size w W) => hred_any a m c (l.take m) W (HRt.out.below hb) HTm.out hmc.out.1 hmc.out.2)
  have hLL : rdL l = if rdE l = 0 then (allB (l.take m)).getD [] else [] := by unfold rdL; rw [hl, show n - 4 = m by omega]
  have HE := Lib.hid hE
  have HL := Lib.hid hLL
  obtain ⟨z, hz⟩ : ∃ z, l.drop m = z := ⟨_, rfl⟩
  obtain ⟨y, hy⟩ : ∃ z, l.take m = z := ⟨_, rfl⟩
  rw [hz] at HEq HE
  rw [hy] at HRed HE HL
  obtain ⟨g, hg⟩ : ∃ g, mv a c m = g := ⟨_, rfl⟩
  rw [hg] at e2 HEq
  obtain ⟨cm, hcm⟩ : ∃ g, c - m = g := ⟨_, rfl⟩
  rw [hcm] at e2 HEq
  obtain ⟨B, hB⟩ : ∃ B, decide (le 4 Y = z) = B := ⟨_, rfl⟩
  rw [hB] at HEq
  have HB := Lib.hid hB
  have BR := Below.refl w.heap.size w
  clear hr hl hc hm h1 h2 hE hLL hM hY hx2 hz hg hcm hB HRt HRd HTm HT4 hmn
  go_enter Tryz.func9, Tryz.ntmps9
  go_upto_region 6 with (fail)
  go_region_held3 (fun w' => Below w.heap.size w w')
    ((first | assumption | exact Below.drew (by assumption) | (go_split_ands; assumption)))
    (first
      | (go_at_call 17; refine (HSum.out _ ?_).mono ?_; assumption; rintro e w4 ⟨rfl, rfl⟩)
      | (go_at_call 14; refine (HNm.out _ ?_).mono ?_; assumption; rintro e w5 ⟨⟨aa, cc, rfl, hraa⟩, hb5⟩)
      | (go_at_call 19; refine (HEq.out _ _ _ ?_ ?_).mono ?_; assumption; assumption; rintro e w6 ⟨rfl, rfl⟩))
  have HB5 := Lib.hid hb5
  clear hb5 hraa HSum HNm HEq BR e1 e2 em
  cases B with
  | false =>
    have HNo : Hid (rdE l = 21) := Lib.hid (by rw [HE.out, if_neg (of_decide_eq_false HB.out)])
    go_wp2_with fail
    go_ret2
    exact RdP.no HNo.out (by omega) HB5.out
  | true =>
    have HE2 : Hid (rdE l = if (allB y).isSome then 0 else 50) := Lib.hid (by rw [HE.out, if_pos (of_decide_eq_true HB.out)])
    have HR := Lib.hid (HRed.out w5 HB5.out)
    clear HRed HE HB
    go_wp2_with fail
    refine HR.out.mono ?_
    rintro e w7 hP
    cases ha : allB y with
    | none =>
      obtain rfl := hP.2.1 ha
      have HNo : Hid (rdE l = 50) := Lib.hid (by rw [HE2.out, ha]; rfl)
      have HB7 := Lib.hid (HB5.out.trans (hP.2.2.mono HB5.out.size))
      clear hP
      go_wp2_with fail
      go_ret2
      exact RdP.no HNo.out (by omega) HB7.out
    | some L =>
      obtain ⟨v, rfl, hrt⟩ := hP.1 L ha
      have HYe : Hid (rdE l = 0) := Lib.hid (by rw [HE2.out, ha]; rfl)
      have HB7 := Lib.hid (HB5.out.trans (hP.2.2.mono HB5.out.size))
      have HRT : Hid (Rt w7 w.heap.size v (rdL l)) := Lib.hid (by rw [HL.out, if_pos HYe.out, ha]; exact hrt.mono HB5.out.size)
      obtain ⟨a2, c2, rfl, -⟩ := hrt.hr
      clear hP hrt
      go_wp2_with fail
      go_ret2
      exact RdP.yes HYe.out HRT.out HB7.out

end Go.Proofs.YthngpmiclbbpnaaGreat
