/-
  Operations' bytes read, as the document tells it: Read. Nothing of one statement alone stands here.
-/
import Derived.Test.YtcpoicplhkkjnaaGreatHistVr
namespace Go.Proofs.YtcpoicplhkkjnaaGreat
open Go.RowKit Crcm Tagm Go.ChangeShapes

theorem below_drewN {w0 w : World} {B : Nat} (h : Below B w0 w) (q : Nat) : Below B w0 (w.drewN q) := ⟨h.os, h.tape, h.output, h.size, h.block⟩
theorem mo_bd (t : List Int) : 0 ≤ mo 0 t ∧ mo 0 t < 4294967296 := by
  unfold mo N
  have := (~~~F (~~~V 0) (t.map V)).isLt
  omega
/-- what the document's Read comes to -/
def RrP (w : World) (l : List Int) (e : Ending) (w' : World) : Prop :=
  ∃ v, e = .returned (.tuple #[v, .int .i64 (rdE l)]) ∧ (∃ a c, v = .slice a (rdL l).length c ∧ HR w' a (rdL l)) ∧ Below w.heap.size w w'
theorem RrP.no {w w' : World} {l : List Int} {x : Int} (h : rdE l = x) (hx : x ≠ 0) (hb : Below w.heap.size w w') : RrP w l (.returned (.tuple #[.slice none 0 0, .int .i64 x])) w' := by
  have e : rdL l = [] := by unfold rdL; rw [if_neg (by rw [h]; exact hx)]
  exact ⟨_, by rw [h], by rw [e]; exact ⟨none, 0, rfl, .inl rfl⟩, hb⟩
theorem RrP.yes {w w' : World} {l : List Int} {L : List Ho} {v : Value} (h : rdE l = 0) (hL : rdL l = L) (hr : ∃ a c, v = .slice a L.length c ∧ HR w' a L) (hb : Below w.heap.size w w') : RrP w l (.returned (.tuple #[v, .int .i64 0])) w' := ⟨v, by rw [h], by rw [hL]; exact hr, hb⟩
theorem Rt2.hr' {w0 w : World} {B : Nat} {v : Value} {L : List Ho} (h : Rt2 w0 w B v L) (hb : Below w0.heap.size w0 w) : ∃ a c, v = .slice a L.length c ∧ HR w a L := by
  obtain ⟨a, c, h1, -, h2⟩ := h.hr hb
  exact ⟨a, c, h1, h2⟩

set_option maxRecDepth 100000 in
set_option maxHeartbeats 2000000 in
theorem rread_early (a : Option Addr) (n c : Nat) (l : List Int) (w : World) (hl : l.length = n) (hc : n ≤ maxLen) (h : 8388608 < n ∨ n < 12) : Calls Tryz.prog 16 #[.slice a n c] w (RrP w l) := by
  have n9 : n ≤ 9223372036854775807 := by unfold maxLen at hc; omega
  have em : IntKind.i64.wrap ((n : Int) - 4) = (n : Int) - 4 := IntWalk.i64_in _ (by omega)
  by_cases h1 : 8388608 < n
  · have HE := Lib.hid (rdE_long (l := l) (by omega))
    have t1 : (8388608 : Int) < (n : Int) := by omega
    clear hl hc h h1
    go_enter Tryz.func16, Tryz.ntmps16
    go_wp2_with fail
    go_ret2
    exact RrP.no HE.out (by omega) (Below.refl _ _)
  · have HE := Lib.hid (rdE_short (l := l) (by omega) (by omega))
    have t1 : ¬ (8388608 : Int) < (n : Int) := by omega
    have t2 : decide ((n : Int) - 4 < 8) = true := decide_eq_true (by omega)
    clear hl hc h h1
    go_enter Tryz.func16, Tryz.ntmps16
    go_upto_region 4 with (fail)
    go_quiet (fail)
    go_wp2_with fail
    go_ret2
    exact RrP.no HE.out (by omega) (below_drewN (Below.refl _ _) _)

set_option maxRecDepth 100000 in
set_option maxHeartbeats 4000000 in
theorem rread_any (a : Option Addr) (n c : Nat) (l : List Int) (w : World) (hr : Rw w a l) (hl : l.length = n) (hc : n ≤ c) (hm : c ≤ maxLen) : Calls Tryz.prog 16 #[.slice a n c] w (RrP w l) := by
  by_cases h12 : 8388608 < n ∨ n < 12
  · exact rread_early a n c l w hl (Nat.le_trans hc hm) h12
  have t1 : ¬ (8388608 : Int) < (n : Int) := by omega
  obtain ⟨m, hmn⟩ : ∃ m, n = m + 4 := ⟨n - 4, by omega⟩
  have em : IntKind.i64.wrap ((n : Int) - 4) = (m : Int) := (IntWalk.i64_in _ (by omega)).trans (by omega)
  have t2 : decide ((m : Int) < 8) = false := decide_eq_false (by omega)
  have hE := rdE_sum (l := l) (by omega) (by omega)
  rw [hl, show n - 4 = m by omega] at hE
  have e1 := cutH a n c m (by omega)
  have e2 := restH a n c m (by omega)
  rw [show n - m = 4 by omega] at e2
  have HRd := hr.mv m c (by omega)
  have hd4 : (l.drop m).length = 4 := by rw [List.length_drop]; omega
  have HNu := Lib.hid (fun (W : World) (hb : Below w.heap.size w W) => num_any (mv a c m) (c - m) (l.drop m) W (HRd.below hb) (by omega))
  rw [hd4] at HNu
  have HSum := Lib.hid (fun (W : World) (hb : Below w.heap.size w W) => refsum_len (cap := c) ((hr.take m).below hb) (show (l.take m).length = m by rw [List.length_take]; omega))
  obtain ⟨M, hM⟩ : ∃ M, mo 0 (l.take m) = M := ⟨_, rfl⟩
  obtain ⟨Z, hZ⟩ : ∃ M, nu (l.drop m) = M := ⟨_, rfl⟩
  obtain ⟨Y, hY⟩ : ∃ Y, uw M = Y := ⟨_, rfl⟩
  have hX2 : IntKind.u64.wrap M = Y := hY
  rw [hM] at HSum
  rw [hZ] at HNu
  have n9 : n ≤ 9223372036854775807 := by omega
  have BR := Below.refl w.heap.size w
  generalize mv a c m = g at e2 HNu HRd
  generalize c - m = cm at e2 HNu
  have HE := Lib.hid hE
  have HR := Lib.hid hr
  have HL := Lib.hid hl
  have HC := Lib.hid (show n ≤ c ∧ c ≤ maxLen ∧ n = m + 4 ∧ ¬ (8388608 < n ∨ n < 12) from ⟨hc, hm, hmn, h12⟩)
  have HM := Lib.hid hM
  have HZ := Lib.hid hZ
  have HY := Lib.hid hY
  clear hE hr hl hc hm hmn h12 hM hZ hY HRd hd4
  go_enter Tryz.func16, Tryz.ntmps16
  go_upto_region 4 with (fail)
  go_region_held3 (fun w' => Below w.heap.size w w')
    ((first | assumption | exact Below.drew (by assumption) | (go_split_ands; assumption)))
    (first
      | (go_at_call 32; refine (HNu.out _ ?_).mono ?_; assumption; rintro e w4 ⟨rfl, rfl⟩)
      | (go_at_call 14; refine (HSum.out _ ?_).mono ?_; assumption; rintro e w4 ⟨rfl, rfl⟩))
  have HB4 : Hid (Below w.heap.size w w.drew) := Lib.hid (Below.refl _ _).drew
  have HSN : Hid (Z = Y ↔ le 4 Y = l.drop m) := Lib.hid (by
    have hu : ∀ x ∈ l.drop m, U8 x := fun x hx => HR.out.1 x (List.mem_of_mem_drop hx)
    have h4 : (l.drop m).length = 4 := by rw [List.length_drop, HL.out]; have := HC.out.2.2.1; omega
    have hb := mo_bd (l.take m)
    rw [HM.out] at hb
    have hMY : Y = M := by rw [← HY.out]; unfold uw; rw [IntKind.wrap_u64]; omega
    rw [← HZ.out]
    exact sum_num hu h4 (by rw [← HY.out]; exact uw_U64 _) (by omega))
  by_cases hzy : Z = Y
  case neg =>
    have tz : (Z != Y) = true := by simpa using hzy
    have HNo : Hid (rdE l = 21) := Lib.hid (by rw [HE.out, HM.out, HY.out, if_neg (fun g => hzy (HSN.out.2 g))])
    clear hzy HNu HSum BR
    go_wp2_with fail
    go_ret2
    exact RrP.no HNo.out (by omega) HB4.out
  have HE2 : Hid (rdE l = if (allB (l.take m)).isSome then 0 else 50) := Lib.hid (by rw [HE.out, HM.out, HY.out, if_pos (HSN.out.1 hzy)])
  have tz : (Z != Y) = false := by simpa using hzy
  clear hzy HNu HSum BR e1 e2 em HE HSN
  generalize w.drew = W4 at HB4 ⊢
  have e3 : ∀ W, (Instr.slice 25 (.slice a n c) (some (.int .i64 4)) (some (.int .i64 8)) none).run Tryz.prog W = .ok (.slice (mv a c 4) 4 (c - 4)) W := midH a n c 4 8 (by omega) (by have := HC.out; omega)
  have e4 : ∀ W, (Instr.slice 25 (.slice a n c) none (some (.int .i64 4)) none).run Tryz.prog W = .ok (.slice a 4 c) W := cutH a n c 4 (by have := HC.out; omega)
  go_wp2_with fail
  have hk4 : ((l.drop 4).take 4).length = 4 := by rw [List.length_take, List.length_drop, HL.out]; have := HC.out.2.2.1; have := HC.out.2.2.2; omega
  have HNk := Lib.hid (num_any (mv a c 4) (c - 4) ((l.drop 4).take 4) W4 (((HR.out.below HB4.out).mv 4 c (by rw [HL.out]; exact HC.out.1)).take 4) (by omega))
  rw [hk4] at HNk
  have hbK := nu_bd ((l.drop 4).take 4) (fun x hx => HR.out.1 x (List.mem_of_mem_drop (List.mem_of_mem_take hx)))
  rw [hk4] at hbK
  obtain ⟨K, hK⟩ : ∃ z : Nat, nu ((l.drop 4).take 4) = z := ⟨(nu ((l.drop 4).take 4)).toNat, by omega⟩
  rw [hK] at HNk
  have hx := ((HR.out.below HB4.out).take 4).text 4 c (by rw [List.length_take, HL.out]; have := HC.out.2.2.2; omega)
  have HYL : Hid ((l.take m).length = m ∧ 8 ≤ m) := Lib.hid ⟨by rw [List.length_take, HL.out]; have := HC.out.2.2.1; omega, by have := HC.out.2.2.1; have := HC.out.2.2.2; omega⟩
  have hy4 : (l.take m).take 4 = l.take 4 := by rw [List.take_take, Nat.min_eq_left (by have := HYL.out.2; omega)]
  have hyd : ((l.take m).drop 4).take 4 = (l.drop 4).take 4 := by rw [List.drop_take, List.take_take, Nat.min_eq_left (by have := HYL.out.2; omega)]
  have HAn : Hid (l.take 4 ≠ [72, 73, 83, 84] → allB (l.take m) = none) := Lib.hid (fun g => allB_2 (by have := HYL.out; omega) (by rw [hy4]; exact g))
  have HAy : Hid (l.take 4 = [72, 73, 83, 84] → allB (l.take m) = if (K : Int) ≤ 4096 then (opsB K ((l.take m).drop 8)).bind fun r => if r.2 = [] then some r.1 else none else none) := Lib.hid (fun g => by
    rw [allB_4 (by have := HYL.out; omega) (by rw [hy4]; exact g) (by rw [List.length_drop]; have := HYL.out; omega), hyd, hK, Int.toNat_natCast, List.drop_drop])
  clear hk4 hbK hK hy4 hyd
  refine HNk.out.mono ?_
  rintro e w5 ⟨rfl, rfl⟩
  by_cases hh : l.take 4 = [72, 73, 83, 84]
  case neg =>
    have HNo : Hid (rdE l = 50) := Lib.hid (by rw [HE2.out, HAn.out hh]; rfl)
    have hne := str_hist_ne (fun x hx => HR.out.1 x (List.mem_of_mem_take hx)) hh
    have hne2 : ((strOfNums (l.take 4)).toList != [72, 73, 83, 84]) = true := by simp only [bne, hne, Bool.not_false]
    generalize (strOfNums (l.take 4)) = T at hx hne hne2
    clear hh HNk
    go_wp2_with fail
    go_ret2
    exact RrP.no HNo.out (by omega) HB4.out
  have HA := Lib.hid (HAy.out hh)
  rw [hh, str_hist] at hx
  clear hh HAn HAy HNk
  by_cases hk : K ≤ 4096
  case neg =>
    have hno : allB (l.take m) = none := by rw [HA.out, if_neg (by omega)]
    have HNo : Hid (rdE l = 50) := Lib.hid (by rw [HE2.out, hno]; rfl)
    clear hno
    have tk : (4096 : Int) < (K : Int) := by omega
    clear hk
    go_wp2_with fail
    go_ret2
    exact RrP.no HNo.out (by omega) HB4.out
  have HA3 : Hid (allB (l.take m) = (opsB K ((l.take m).drop 8)).bind fun r => if r.2 = [] then some r.1 else none) := Lib.hid (by rw [HA.out, if_pos (by omega)])
  have tk : ¬ (4096 : Int) < (K : Int) := by omega
  have HKs := Lib.hid hk
  have e1 := cutH a n c m (by have := HC.out; omega)
  clear hk HA
  go_wp2_with fail
  go_loopw [6, 7, 8] (fun v at' i wr => ∃ (k p : Nat) (L : List Ho), k ≤ K ∧ i = .int .u64 k ∧ at' = .int .i64 p ∧ p ≤ m ∧ Hid (L.length = k) ∧ Hid (Rt2 w wr w.heap.size v L) ∧ Hid (Below w.heap.size w wr) ∧ Hid (opsB K ((l.take m).drop 8) = (opsB (K - k) ((l.take m).drop p)).map fun r => (L ++ r.1, r.2))) (fun _ _ i _ => K - (intOf i).toNat)
  case atStart => exact ⟨0, 8, [], Nat.zero_le _, rfl, rfl, HYL.out.2, Lib.hid rfl, Lib.hid (Rt2.nil _ _ _), HB4, Lib.hid (by cases opsB K ((l.take m).drop 8) <;> rfl)⟩
  case round =>
    obtain ⟨k, p, L, hkC, rfl, rfl, hpm, hLn, hT, hB, hI⟩ := hrel
    by_cases hlt : k < K
    · have kl : (k : Int) < (K : Int) := by omega
      obtain ⟨q, hq⟩ : ∃ q, K - k = q + 1 := ⟨K - k - 1, by omega⟩
      have HO := Lib.hid (rop_any a m c (l.take m) p wr ((HR.out.below hB.out).take m) HYL.out.1 (by have := HC.out; omega) (by have := HC.out; omega) (by have := HC.out; omega))
      have HI2 : Hid (opsB K ((l.take m).drop 8) = (opsB (q + 1) ((l.take m).drop p)).map fun r => (L ++ r.1, r.2)) := Lib.hid (by rw [hI.out, hq])
      have Hq := Lib.hid hq
      clear hI hq
      go_wp2_with fail
      refine HO.out.mono ?_
      rintro e w6 hP
      have HB6 := Lib.hid (hB.out.trans (hP.2.2.mono hB.out.size))
      have HT6 := Lib.hid (hT.out.below hP.2.2)
      cases ho : opB ((l.take m).drop p) with
      | none =>
        obtain rfl := hP.2.1 ho
        have HNo : Hid (rdE l = 50) := Lib.hid (by rw [HE2.out, HA3.out, HI2.out, ops_none L ho]; rfl)
        have HB7 : Hid (Below w.heap.size w (w6.alloc (.cells #[.int .i64 0, .string ⟨#[]⟩, .string ⟨#[]⟩, .int .i64 0, .int .i64 0, .int .i64 0, .slice none 0 0] 48))) := Lib.hid (HB6.out.alloc HB6.out.size _)
        clear hP ho HO HI2
        go_wp2_with fail
        go_ret2
        exact RrP.no HNo.out (by omega) HB7.out
      | some yy =>
      obtain ⟨o, l3⟩ := yy
      obtain ⟨A, cc, j, rfl, hj0, hjl, rfl, hcc, -, hW⟩ := hP.1 o l3 ho
      obtain ⟨jn, rfl⟩ : ∃ z : Nat, j = z := ⟨j.toNat, by omega⟩
      rw [Int.toNat_natCast] at hjl ho
      have hjm : jn ≤ m := by rw [HYL.out.1] at hjl; exact hjl
      have tj : ¬ (jn : Int) < 0 := by omega
      have HWw : Hid (o.b.length ≤ cc ∧ Rw w A o.b) := Lib.hid ⟨hcc, hW w (HR.out.take m)⟩
      have HI3 : Hid (opsB K ((l.take m).drop 8) = (opsB q ((l.take m).drop jn)).map fun r => ((L ++ [o]) ++ r.1, r.2)) := Lib.hid (by rw [HI2.out, ops_step L ho])
      have hba1 : Below w6.heap.size w6 (w6.alloc (.cells #[.int .i64 o.kind, .string o.path, .string o.to, .int .i64 o.handle, .int .i64 o.n, .int .i64 o.off, .slice A o.b.length cc] 48)) := (Below.refl _ _).alloc (Nat.le_refl _) _
      have hba2 : Below w6.heap.size w6 ((w6.alloc (.cells #[.int .i64 o.kind, .string o.path, .string o.to, .int .i64 o.handle, .int .i64 o.n, .int .i64 o.off, .slice A o.b.length cc] 48)).alloc (.cells #[.int .i64 o.kind, .string o.path, .string o.to, .int .i64 o.handle, .int .i64 o.n, .int .i64 o.off, .slice A o.b.length cc] 48)) := hba1.alloc hba1.size _
      have HT8 := Lib.hid (HT6.out.below hba2)
      have HB8 := Lib.hid (HB6.out.trans (hba2.mono HB6.out.size))
      have HN8 : Hid (Blk ((w6.alloc (.cells #[.int .i64 o.kind, .string o.path, .string o.to, .int .i64 o.handle, .int .i64 o.n, .int .i64 o.off, .slice A o.b.length cc] 48)).alloc (.cells #[.int .i64 o.kind, .string o.path, .string o.to, .int .i64 o.handle, .int .i64 o.n, .int .i64 o.off, .slice A o.b.length cc] 48)) (w6.heap.size + 1) 48 #[.int .i64 o.kind, .string o.path, .string o.to, .int .i64 o.handle, .int .i64 o.n, .int .i64 o.off, .slice A o.b.length cc]) := Lib.hid (by
        have := Blk.new (w6.alloc (.cells #[.int .i64 o.kind, .string o.path, .string o.to, .int .i64 o.handle, .int .i64 o.n, .int .i64 o.off, .slice A o.b.length cc] 48)) 48 #[.int .i64 o.kind, .string o.path, .string o.to, .int .i64 o.handle, .int .i64 o.n, .int .i64 o.off, .slice A o.b.length cc]
        simpa using this)
      clear hP ho hj0 hjl hcc hW HO HI2 hba1 hba2 HT6 hT hB
      go_wp2_with (at_builtin; refine append_op2 (w0 := w) rfl _ _ rfl w.heap.size _ L rfl HT8.out (w6.heap.size + 1) 1 (o, A, cc) rfl (by have := hLn.out; have := HKs.out; omega) HN8.out HWw.out HB8.out.size ?_)
      intro v' w9 ht hb
      have HT9 := Lib.hid ht
      have HB9 : Hid (Below w.heap.size w w9) := Lib.hid (HB8.out.trans hb)
      clear ht hb HT8 HN8
      have eu : IntKind.u64.wrap ((k : Int) + 1) = (k : Int) + 1 := IntWalk.u64_in _ (by have := HKs.out; omega)
      go_wp2
      go_roundw
      case rel => exact ⟨k + 1, jn, L ++ [o], by omega, by go_num, rfl, hjm, Lib.hid (by rw [List.length_append, hLn.out]; rfl), HT9, HB9, Lib.hid (by rw [HI3.out, show K - (k + 1) = q by have := Hq.out; omega])⟩
      case measure => simp [intOf]; omega
    · have kl : ¬ (k : Int) < (K : Int) := by omega
      have ek : K - k = 0 := by omega
      have hA4 : allB (l.take m) = if (l.take m).drop p = [] then some L else none := by rw [HA3.out, hI.out, ek, opsB]; simp
      have hlp : ((l.take m).drop p).length = m - p := by rw [List.length_drop, HYL.out.1]
      by_cases hpe : p = m
      case neg =>
        have hne : (l.take m).drop p ≠ [] := fun g => by rw [g] at hlp; simp at hlp; omega
        have hno : allB (l.take m) = none := by rw [hA4, if_neg hne]
        have HNo : Hid (rdE l = 50) := Lib.hid (by rw [HE2.out, hno]; rfl)
        have tp : ((p : Int) != (m : Int)) = true := by simp; omega
        clear hno hne hlp hA4 ek hI hpe
        go_wp2_with fail
        go_ret2
        exact RrP.no HNo.out (by omega) hB.out
      have hnil : (l.take m).drop p = [] := List.eq_nil_of_length_eq_zero (by omega)
      have hsome : allB (l.take m) = some L := by rw [hA4, if_pos hnil]
      have HYe : Hid (rdE l = 0) := Lib.hid (by rw [HE2.out, hsome]; rfl)
      have HLr : Hid (rdL l = L) := Lib.hid (by
        unfold rdL
        rw [if_pos HYe.out, HL.out, show n - 4 = m by have := HC.out.2.2.1; omega, hsome]
        rfl)
      subst hpe
      have tp : ((p : Int) != (p : Int)) = false := by simp
      clear hnil hsome hlp hA4 ek hI
      go_wp2_with fail
      go_ret2
      exact RrP.yes HYe.out HLr.out (hT.out.hr' hB.out) hB.out

end Go.Proofs.YtcpoicplhkkjnaaGreat
