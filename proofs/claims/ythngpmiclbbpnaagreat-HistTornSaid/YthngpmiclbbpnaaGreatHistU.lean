/-
  Operations' bytes read: all operations, walked. Nothing of one statement alone stands here.
-/
import Derived.Test.YthngpmiclbbpnaaGreatHistV
namespace Go.Proofs.YthngpmiclbbpnaaGreat
open Go.RowKit Crcm Tagm Go.ChangeShapes

theorem allB_1 {l : List Int} (h : ¬ 4 ≤ l.length) : allB l = none := by unfold allB tkB; rw [if_neg h]; rfl
theorem allB_2 {l : List Int} (h : 4 ≤ l.length) (h2 : l.take 4 ≠ [72, 73, 83, 84]) : allB l = none := by unfold allB tkB; rw [if_pos h, Option.bind_some]; exact if_neg h2
theorem allB_3 {l : List Int} (h : 4 ≤ l.length) (h2 : l.take 4 = [72, 73, 83, 84]) (h3 : ¬ 4 ≤ (l.drop 4).length) : allB l = none := by
  unfold allB tkB
  rw [if_pos h, Option.bind_some, if_pos h2]
  unfold nmB
  rw [if_neg h3]
  rfl
theorem allB_4 {l : List Int} (h : 4 ≤ l.length) (h2 : l.take 4 = [72, 73, 83, 84]) (h3 : 4 ≤ (l.drop 4).length) : allB l = if nu ((l.drop 4).take 4) ≤ 4096 then (opsB (nu ((l.drop 4).take 4)).toNat ((l.drop 4).drop 4)).bind fun r => if r.2 = [] then some r.1 else none else none := by
  unfold allB tkB
  rw [if_pos h, Option.bind_some, if_pos h2]
  unfold nmB
  rw [if_pos h3]
  rfl
theorem ops_step {m : Nat} {l l' : List Int} {o : Ho} (L : List Ho) (h : opB l = some (o, l')) : ((opsB (m + 1) l).map fun r => (L ++ r.1, r.2)) = (opsB m l').map fun r => ((L ++ [o]) ++ r.1, r.2) := by
  rw [opsB, h, Option.bind_some]
  cases opsB m l' with
  | none => rfl
  | some r => simp
theorem ops_none {m : Nat} {l : List Int} (L : List Ho) (h : opB l = none) : ((opsB (m + 1) l).map fun r => (L ++ r.1, r.2)) = none := by rw [opsB, h]; rfl
theorem str_hist : strOfNums [72, 73, 83, 84] = ⟨#[72, 73, 83, 84]⟩ := by decide +kernel
theorem str_hist_ne {t : List Int} (hu : ∀ x ∈ t, U8 x) (h : t ≠ [72, 73, 83, 84]) : ((strOfNums t).toList == [72, 73, 83, 84]) = false := by
  rw [beq_eq_false_iff_ne, ByteArray.toList_eq]
  intro g
  apply h
  rw [← nb_strOf hu]
  unfold nb
  rw [g]
  rfl

set_option maxRecDepth 100000 in
set_option maxHeartbeats 4000000 in
theorem hall_any {w : World} {R : Nat} {l : List Int} (h : Rd w R l) : Calls Tryz.prog 34 #[.pointer (some ⟨R, 0, none⟩)] w (AllP w R l) := by
  have HRw := Lib.hid h.lt
  by_cases h4 : 4 ≤ l.length
  case neg =>
    have HNo := Lib.hid (allB_1 h4)
    have HT := Lib.hid (take_no h 4 h4)
    clear h h4
    go_enter Tryz.func34, Tryz.ntmps34
    go_wp2_with fail
    refine HT.out.mono ?_
    rintro e w1 ⟨rfl, hk⟩
    exact ⟨rfl, AllP.no HNo.out hk⟩
  have HT := Lib.hid (take_yes h 4 h4)
  have HL4 : Hid ((l.take 4).length = 4) := Lib.hid (by rw [List.length_take]; omega)
  have hU : ∀ x ∈ l, U8 x := h.len.2
  have HU : Hid (∀ x ∈ l.take 4, U8 x) := Lib.hid fun x hx => hU x (List.mem_of_mem_take hx)
  have HUd : Hid (∀ x ∈ l.drop 4, U8 x) := Lib.hid fun x hx => hU x (List.mem_of_mem_drop hx)
  have HA2 := Lib.hid (allB_2 h4)
  have HA3 := Lib.hid (allB_3 h4)
  have HA4 := Lib.hid (allB_4 h4)
  obtain ⟨t, ht⟩ : ∃ t, l.take 4 = t := ⟨_, rfl⟩
  obtain ⟨l1, hl1⟩ : ∃ t, l.drop 4 = t := ⟨_, rfl⟩
  rw [ht] at HT HL4 HU HA2 HA3 HA4
  rw [hl1] at HT HUd HA3 HA4
  clear h h4 hU ht hl1
  go_enter Tryz.func34, Tryz.ntmps34
  go_wp2_with fail
  refine HT.out.mono ?_
  rintro e w1 ⟨⟨a, c, rfl, -, hq⟩, hd, hk⟩
  have hx := hq.1.text 4 c HL4.out
  have HD := Lib.hid hd
  have HK := Lib.hid hk
  clear hq hd hk HT
  by_cases hh : t = [72, 73, 83, 84]
  case neg =>
    have HNo := Lib.hid (HA2.out hh)
    have hne := str_hist_ne HU.out hh
    have HMn := Lib.hid (must_no w1)
    clear hh
    go_wp2_with fail
    refine HMn.out.mono ?_
    rintro e w9 ⟨rfl, rfl⟩
    exact ⟨rfl, AllP.no HNo.out HK.out⟩
  have HMy := Lib.hid (must_yes w1)
  have HA3' := Lib.hid (HA3.out hh)
  have HA4' := Lib.hid (HA4.out hh)
  subst hh
  rw [str_hist] at hx
  clear HA2 HA3 HA4 HL4 HU
  go_wp2_with fail
  refine HMy.out.mono ?_
  rintro e w9 ⟨rfl, rfl⟩
  clear hx HMy
  by_cases h3 : 4 ≤ l1.length
  case neg =>
    have HNo := Lib.hid (HA3'.out h3)
    have HN := Lib.hid (hnum_no HD.out 4 h3)
    clear h3
    go_wp2_with fail
    refine HN.out.mono ?_
    rintro e w2 ⟨rfl, hk⟩
    exact ⟨rfl, AllP.no HNo.out (HK.out.trans hk)⟩
  have HN := Lib.hid (hnum_yes HD.out 4 (by omega) h3)
  have hbd := nu_bd (l1.take 4) (fun x hx => HUd.out x (List.mem_of_mem_take hx))
  rw [show (l1.take 4).length = 4 by rw [List.length_take]; omega] at hbd
  have HA5 := Lib.hid (HA4'.out h3)
  obtain ⟨C, hC⟩ : ∃ z : Nat, nu (l1.take 4) = z := ⟨(nu (l1.take 4)).toNat, by omega⟩
  obtain ⟨l2, hl2⟩ : ∃ z, l1.drop 4 = z := ⟨_, rfl⟩
  rw [hC, hl2] at HN
  rw [hC] at hbd
  rw [hC, hl2, Int.toNat_natCast] at HA5
  clear h3 hC hl2 HA3' HA4' HUd
  go_wp2_with fail
  refine HN.out.mono ?_
  rintro e w2 ⟨rfl, hd, hk⟩
  have HD2 := Lib.hid hd
  have HK2 := Lib.hid (HK.out.trans hk)
  clear hd hk HN HD HK
  by_cases hc : C ≤ 4096
  case neg =>
    have HNo : Hid (allB l = none) := Lib.hid (by rw [HA5.out, if_neg (by omega)])
    have hc2 : ¬ (C : Int) ≤ 4096 := by omega
    have HMn := Lib.hid (must_no w2)
    clear hc hbd
    go_wp2_with fail
    rw [show decide ((C : Int) ≤ 4096) = false from decide_eq_false (by omega)]
    refine HMn.out.mono ?_
    rintro e w9 ⟨rfl, rfl⟩
    exact ⟨rfl, AllP.no HNo.out HK2.out⟩
  have HA6 : Hid (allB l = (opsB C l2).bind fun r => if r.2 = [] then some r.1 else none) := Lib.hid (by rw [HA5.out, if_pos (by omega)])
  have hc2 : (C : Int) ≤ 4096 := by omega
  have HMy := Lib.hid (must_yes w2)
  have hc3 : decide ((C : Int) ≤ 4096) = true := decide_eq_true hc2
  clear hbd HA5 hc2
  go_wp2_with fail
  refine HMy.out.mono ?_
  rintro e w9 ⟨rfl, rfl⟩
  clear HMy hc3
  go_wp2_with fail
  have HC := Lib.hid hc
  clear hc
  go_loopw [4, 16] (fun v i wr => ∃ (k : Nat) (L : List Ho) (l' : List Int), k ≤ C ∧ i = .int .u64 k ∧ Hid (L.length = k) ∧ Hid (Rt wr w.heap.size v L) ∧ Hid (Rd wr R l') ∧ Hid (Ko R w wr) ∧ Hid (opsB C l2 = (opsB (C - k) l').map fun r => (L ++ r.1, r.2))) (fun _ i _ => C - (intOf i).toNat)
  case atStart => exact ⟨0, [], l2, Nat.zero_le _, rfl, Lib.hid rfl, Lib.hid (Rt.nil _ _), HD2, HK2, Lib.hid (by cases opsB C l2 <;> rfl)⟩
  case round =>
    obtain ⟨k, L, l', hkC, rfl, hL, hT, hD, hK, hI⟩ := hrel
    by_cases hlt : k < C
    · have kl : (k : Int) < (C : Int) := by omega
      obtain ⟨m, hm⟩ : ∃ m, C - k = m + 1 := ⟨C - k - 1, by omega⟩
      have HO := Lib.hid (hop_any hD.out)
      have HI2 : Hid (opsB C l2 = (opsB (m + 1) l').map fun r => (L ++ r.1, r.2)) := Lib.hid (by rw [hI.out, hm])
      have Hm := Lib.hid hm
      clear hI hm
      go_wp2_with fail
      refine HO.out.mono ?_
      rintro e w3 hP
      cases ho : opB l' with
      | none =>
        have hA : allB l = none := by rw [HA6.out, HI2.out, ops_none L ho]; rfl
        obtain rfl := hP.2.1 ho
        exact ⟨rfl, AllP.no hA (hK.out.trans hP.2.2)⟩
      | some y =>
      obtain ⟨o, l3⟩ := y
      obtain ⟨⟨A, cc, rfl, hcc, hy⟩, hd3⟩ := hP.1 o l3 ho
      have HK3 := Lib.hid (hK.out.trans hP.2.2)
      have HT3 := Lib.hid (hT.out.ko hP.2.2 HRw.out)
      have HD3 := Lib.hid hd3
      have HY := Lib.hid (hy.mono hK.out.size)
      have HI3 : Hid (opsB C l2 = (opsB m l3).map fun r => ((L ++ [o]) ++ r.1, r.2)) := Lib.hid (by rw [HI2.out, ops_step L ho])
      have hba : Below w3.heap.size w3 (w3.alloc (.cells #[.int .i64 o.kind, .string o.path, .string o.to, .int .i64 o.handle, .int .i64 o.n, .int .i64 o.off, .slice A o.b.length cc] 41)) := (Below.refl _ _).alloc (Nat.le_refl _) _
      have HT4 := Lib.hid (HT3.out.below hba)
      have HY4 := Lib.hid (HY.out.below hba)
      have HD4 := Lib.hid (HD3.out.above (hba.mono (by have := HD3.out.lt; omega)))
      have HK4 := Lib.hid (HK3.out.trans (Ko.of_below hba))
      have HN4 := Lib.hid (Blk.new w3 41 #[.int .i64 o.kind, .string o.path, .string o.to, .int .i64 o.handle, .int .i64 o.n, .int .i64 o.off, .slice A o.b.length cc])
      clear hP ho hd3 hy HO HI2 hT hD hK hba HT3 HY HD3 HK3
      go_wp2_with (at_builtin; refine append_op rfl _ _ rfl w.heap.size _ L rfl HT4.out w3.heap.size 1 (o, A, cc) rfl (by have := hL.out; have := HC.out; omega) HN4.out ⟨hcc, HY4.out⟩ HK4.out.size ?_)
      intro v' w4 ht hb
      have HT5 := Lib.hid ht
      have HD5 := Lib.hid (HD4.out.above (hb.mono HRw.out))
      have HK5 : Hid (Ko R w w4) := Lib.hid ⟨hb.os.trans HK4.out.os, hb.tape.trans HK4.out.tape, hb.output.trans HK4.out.output, Nat.le_trans HK4.out.size hb.size, fun k hk hr => (hb.block k hk).trans (HK4.out.block k hk hr)⟩
      have eu : IntKind.u64.wrap ((k : Int) + 1) = (k : Int) + 1 := IntWalk.u64_in _ (by have := HC.out; omega)
      go_wp2
      go_roundw
      case rel => exact ⟨k + 1, L ++ [o], l3, by omega, by go_num, Lib.hid (by rw [List.length_append, hL.out]; rfl), HT5, HD5, HK5, Lib.hid (by rw [HI3.out, show C - (k + 1) = m by have := Hm.out; omega])⟩
      case measure => simp [intOf]; omega
    · have kl : ¬ (k : Int) < (C : Int) := by omega
      have ek : C - k = 0 := by omega
      have hA : allB l = if l' = [] then some L else none := by rw [HA6.out, hI.out, ek, opsB]; simp
      have HA := Lib.hid hA
      obtain ⟨a9, c9, g1, g2, g3, g4⟩ := hD.out
      have z9 := g1.cell 0
      simp only [List.getElem?_toArray, List.getElem?_cons_zero] at z9
      obtain ⟨n9, hn9⟩ : ∃ z, l'.length = z := ⟨_, rfl⟩
      rw [hn9] at z9
      clear hlt ek hA hI g1 g2 g3 g4
      by_cases h9 : n9 = 0
      case neg =>
        have h90 : ((n9 : Int) == 0) = false := by rw [beq_eq_false_iff_ne]; omega
        have hne : l' ≠ [] := fun g => h9 (by rw [← hn9, g]; rfl)
        have HNo : Hid (allB l = none) := Lib.hid (by rw [HA.out, if_neg hne])
        have HMn := Lib.hid (must_no wr)
        clear hne h9 hn9
        go_wp2_with fail
        refine HMn.out.mono ?_
        rintro e w9 ⟨rfl, rfl⟩
        exact ⟨rfl, AllP.no HNo.out hK.out⟩
      have hnil : l' = [] := List.eq_nil_of_length_eq_zero (by omega)
      have HYes : Hid (allB l = some L) := Lib.hid (by rw [HA.out, if_pos hnil])
      have HMy := Lib.hid (must_yes wr)
      subst h9
      clear hnil hn9
      go_wp2_with fail
      refine HMy.out.mono ?_
      rintro e w9 ⟨rfl, rfl⟩
      go_wp2
      go_ret
      exact AllP.yes HYes.out hT.out hK.out

end Go.Proofs.YthngpmiclbbpnaaGreat
