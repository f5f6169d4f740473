/-
  The law GlobPlain.
-/
import Derived.Test.YtaielamimkigmaaGlobPlainM
import Derived.Test.YtaielamimkigmaaGlobLawB
namespace Go.Proofs.Ytaielamimkigmaa
open Go.RowKit Go.ChangeShapes Globm Go.ChangeMaps

theorem take_all {l : List ByteArray} {k : Nat} {x : ByteArray} (hx : l[k]? = some x) (h : ∀ t ∈ l.take k, Pln t) (hp : Pln x) : ∀ t ∈ l.take (k + 1), Pln t := by
  have := List.take_add_one (l := l) (i := k)
  rw [hx] at this
  rw [this]
  intro t ht
  rcases List.mem_append.1 ht with q | q
  · exact h t q
  · have q2 : t = x := by simpa using q
    rw [q2]; exact hp

set_option maxRecDepth 100000 in
set_option maxHeartbeats 4000000 in
theorem globPlain_walk (a : Option Addr) (len cap : Nat) (z : List ByteArray) (a2 : Option Addr) (len2 cap2 : Nat) (z2 : List ByteArray) (w : World) (hz : RowS w a len cap z) (hu : ∀ s ∈ z, s.size ≤ 140737488351232) (hz2 : RowS w a2 len2 cap2 z2) (hu2 : ∀ s ∈ z2, s.size ≤ 140737488351232) :
    Calls Try.prog 6 #[.slice a len cap, .slice a2 len2 cap2] w fun e w' => e = .returned (.bool true) ∧ Below w.heap.size w w' := by
  obtain ⟨l, hl, hc, hR, hzl⟩ := hz.rsz hu
  obtain ⟨m, hm, hcm, hRm, hzm⟩ := hz2.rsz hu2
  clear hz hu hz2 hu2
  have HM := Lib.hid (many_any l a cap len w hR hl hzl)
  have HM2 := Lib.hid (fun w (h : Rs w a2 m) => many_any m a2 cap2 len2 w h hm hzm)
  have HR := Lib.hid hR
  have HL := Lib.hid hl
  have HRm := Lib.hid hRm
  have HLm := Lib.hid hm
  clear hR hl hzl hRm hm hzm
  go_enter Try.func6, Try.ntmps6
  go_wp2_with fail
  refine HM.out.mono ?_
  rintro e w2 ⟨⟨b, rfl, hb0⟩, hb⟩
  have HB := Lib.hid hb
  cases b with
  | true =>
    clear hb0 hb
    go_wp2_with fail
    refine (gknown_any _).mono ?_
    rintro e w3 ⟨rfl, hb3⟩
    go_wp2
    go_ret
    exact ⟨rfl, gbonq HB.out hb3⟩
  | false =>
    obtain ⟨hn20, hs400⟩ := hb0.out rfl
    have HS := Lib.hid hs400
    clear hb0 hs400 hb
    go_wp2_with fail
    refine (HM2.out _ (HRm.out.below HB.out)).mono ?_
    rintro e w3 ⟨⟨b, rfl, hb0⟩, hb3⟩
    have HB3 := Lib.hid (gbonq HB.out hb3)
    clear hb3 HB
    cases b with
    | true =>
      clear hb0
      go_wp2_with fail
      refine (gknown_any _).mono ?_
      rintro e w4 ⟨rfl, hb4⟩
      go_wp2
      go_ret
      exact ⟨rfl, gbonq HB3.out hb4⟩
    | false =>
      obtain ⟨hn20m, hs400m⟩ := hb0.out rfl
      have HSm := Lib.hid hs400m
      clear hb0 hs400m
      by_cases h16 : 16 < len
      · have t1 : decide ((16 : Int) < (len : Int)) = true := by simp; omega
        clear h16
        go_wp2_with fail
        refine (gknown_any _).mono ?_
        rintro e w4 ⟨rfl, hb4⟩
        go_wp2
        go_ret
        exact ⟨rfl, gbonq HB3.out hb4⟩
      · have t1 : decide ((16 : Int) < (len : Int)) = false := by simp; omega
        clear HM HM2
        go_wp2_with fail
        go_loopw [5, 6] (fun s i wr => ∃ (k : Nat) (T : ByteArray), s = .string T ∧ i = .int .i64 k ∧ k ≤ len ∧ wr = w3 ∧ Hid (T = gl (l.take k)) ∧ Hid (∀ t ∈ l.take k, Pln t)) (fun _ i _ => len - (intOf i).toNat)
        case atStart => exact ⟨0, ⟨#[47]⟩, rfl, rfl, by omega, rfl, Lib.hid rfl, Lib.hid (by simp)⟩
        case round =>
          obtain ⟨k, T, rfl, rfl, hk, rfl, hT, hP⟩ := hrel
          by_cases hlt : k < len
          · have hkl : k < l.length := by have := HL.out; omega
            obtain ⟨-, -, h0 | ⟨b, off, rfl, hcl⟩⟩ := HR.out.below HB3.out
            · rw [h0] at hkl; simp at hkl
            have c1 := hcl k hkl
            have hxs := HS.out l[k] (List.getElem_mem hkl)
            have hx : l[k]? = some l[k] := List.getElem?_eq_getElem hkl
            obtain ⟨x, hxe⟩ : ∃ x, l[k] = x := ⟨_, rfl⟩
            rw [hxe] at c1 hxs hx
            have HX := Lib.hid hx
            have hltI : (k : Int) < (len : Int) := by omega
            have hTs : T.size ≤ 1041 := by
              rw [hT.out]
              exact gl_few (fun t ht => (hP.out t ht).2.1) (by rw [List.length_take]; omega)
            clear hcl hkl hxe hx
            go_wp2_with fail
            go_loopw [7] (fun y wr2 => ∃ j : Nat, y = .int .i64 j ∧ j ≤ x.size ∧ wr2 = wr ∧ Hid (∀ b ∈ (by8 x).take j, pb b)) (fun y _ => x.size - (intOf y).toNat)
            case atStart => exact ⟨0, rfl, by omega, rfl, Lib.hid (by simp)⟩
            case round =>
              obtain ⟨j, rfl, hj, rfl, hpb⟩ := hrel
              by_cases hjx : j < x.size
              · have hjI : (j : Int) < (x.size : Int) := by omega
                have hxI : (x.size : Int) ≤ 400 := by omega
                have hb8 := by8_get hjx
                have hlt8 : x[j].toNat < 256 := UInt8.toNat_lt _
                by_cases hp : pb x[j].toNat
                · obtain ⟨q1, q2, q3, q4⟩ := hp
                  have e1 : ((x[j].toNat : Int) == 63) = false := by simp; omega
                  have e2 : ((x[j].toNat : Int) == 42) = false := by simp; omega
                  have e3 : ((x[j].toNat : Int) == 91) = false := by simp; omega
                  have e4 : ((x[j].toNat : Int) == 47) = false := by simp; omega
                  have HNx : Hid (∀ b ∈ (by8 x).take (j + 1), pb b) := Lib.hid (fun b hb => by
                    rw [List.take_add_one, hb8] at hb
                    rcases List.mem_append.1 hb with q | q
                    · exact hpb.out b q
                    · have : b = x[j].toNat := by simpa using q
                      rw [this]; exact ⟨q1, q2, q3, q4⟩)
                  clear q1 q2 q3 q4 hb8 hlt8
                  go_wp2
                  go_roundw
                  case rel => exact ⟨j + 1, by go_num, by omega, by trivial, HNx⟩
                  case measure => simp [intOf]; omega
                · have hq : x[j].toNat = 63 ∨ x[j].toNat = 42 ∨ x[j].toNat = 91 ∨ x[j].toNat = 47 := by unfold pb at hp; omega
                  clear hp hb8 hlt8
                  rcases hq with q | q | q | q
                  · have e1 : ((x[j].toNat : Int) == 63) = true := by rw [q]; rfl
                    clear q
                    go_wp2_with fail
                    refine (gknown_any _).mono ?_
                    rintro e w4 ⟨rfl, hb4⟩
                    go_wp2
                    go_ret
                    exact ⟨rfl, gbonq HB3.out hb4⟩
                  · have e1 : ((x[j].toNat : Int) == 63) = false := by rw [q]; rfl
                    have e2 : ((x[j].toNat : Int) == 42) = true := by rw [q]; rfl
                    clear q
                    go_wp2_with fail
                    refine (gknown_any _).mono ?_
                    rintro e w4 ⟨rfl, hb4⟩
                    go_wp2
                    go_ret
                    exact ⟨rfl, gbonq HB3.out hb4⟩
                  · have e1 : ((x[j].toNat : Int) == 63) = false := by rw [q]; rfl
                    have e2 : ((x[j].toNat : Int) == 42) = false := by rw [q]; rfl
                    have e3 : ((x[j].toNat : Int) == 91) = true := by rw [q]; rfl
                    clear q
                    go_wp2_with fail
                    refine (gknown_any _).mono ?_
                    rintro e w4 ⟨rfl, hb4⟩
                    go_wp2
                    go_ret
                    exact ⟨rfl, gbonq HB3.out hb4⟩
                  · have e1 : ((x[j].toNat : Int) == 63) = false := by rw [q]; rfl
                    have e2 : ((x[j].toNat : Int) == 42) = false := by rw [q]; rfl
                    have e3 : ((x[j].toNat : Int) == 91) = false := by rw [q]; rfl
                    have e4 : ((x[j].toNat : Int) == 47) = true := by rw [q]; rfl
                    clear q
                    go_wp2_with fail
                    refine (gknown_any _).mono ?_
                    rintro e w4 ⟨rfl, hb4⟩
                    go_wp2
                    go_ret
                    exact ⟨rfl, gbonq HB3.out hb4⟩
              · have hje : j = x.size := by omega
                subst hje
                have hjI : ¬ (x.size : Int) < (x.size : Int) := by omega
                have hall : ∀ b ∈ by8 x, pb b := fun b hb => hpb.out b (by rw [List.take_of_length_le (by rw [by8_length]; exact Nat.le_refl _)]; exact hb)
                rcases (by omega : x.size = 0 ∨ 64 < x.size ∨ (1 ≤ x.size ∧ x.size ≤ 64)) with q | q | q
                · have e1 : ((x.size : Int) == 0) = true := by rw [beq_iff_eq]; omega
                  clear q hall hpb hjx hj
                  go_wp2_with fail
                  refine (gknown_any _).mono ?_
                  rintro e w4 ⟨rfl, hb4⟩
                  go_wp2
                  go_ret
                  exact ⟨rfl, gbonq HB3.out hb4⟩
                · have e1 : ((x.size : Int) == 0) = false := by rw [beq_eq_false_iff_ne]; omega
                  have e2 : decide ((64 : Int) < (x.size : Int)) = true := by simp; omega
                  clear q hall hpb hjx hj
                  go_wp2_with fail
                  refine (gknown_any _).mono ?_
                  rintro e w4 ⟨rfl, hb4⟩
                  go_wp2
                  go_ret
                  exact ⟨rfl, gbonq HB3.out hb4⟩
                · have e1 : ((x.size : Int) == 0) = false := by rw [beq_eq_false_iff_ne]; omega
                  have e2 : decide ((64 : Int) < (x.size : Int)) = false := by simp; omega
                  have hPx : Pln x := ⟨q.1, q.2, hall⟩
                  have HP1 := Lib.hid (take_all HX.out hP.out hPx)
                  have HT1 : Hid (T ++ x ++ ⟨#[47]⟩ = gl (l.take (k + 1))) := Lib.hid (by
                    rw [List.take_add_one, HX.out, Option.toList_some, gl_snoc, hT.out])
                  have hA1 := fun W => run_string_add_sum (P := Try.prog) (w := W) T x (by omega)
                  have hA2 := fun W => run_string_add_sum (P := Try.prog) (w := W) (T ++ x) ⟨#[47]⟩ (by rw [ByteArray.size_append]; show _ + 1 ≤ _; omega)
                  clear hall hpb hjx hj hPx
                  go_wp2_with fail
                  refine ⟨⟨k + 1, _, rfl, by go_num, by omega, by trivial, HT1, HP1⟩, ?_⟩
                  simp [intOf]; omega
          · have hke : k = len := by omega
            subst hke
            have hkI : ¬ (k : Int) < (k : Int) := by omega
            have htk : l.take k = l := List.take_of_length_le (by rw [HL.out]; exact Nat.le_refl _)
            rw [htk] at hT hP
            have hk16 : l.length ≤ 16 := by rw [HL.out]; omega
            have hTs : T.size ≤ 1041 := by
              rw [hT.out]
              exact gl_few (fun t ht => (hP.out t ht).2.1) hk16
            have hNE := gl_nwE hP.out hk16
            have hPa := gl_parts hP.out
            rw [← hT.out] at hNE hPa
            have HNw := Lib.hid (fun w => new_any T w (by omega))
            rw [hNE, hPa] at HNw
            have HCv := Lib.hid (fun s => pln_cv (s := s) hP.out)
            have HK16 := Lib.hid hk16
            by_cases h255 : 255 < T.size
            · have t2 : decide ((255 : Int) < (T.size : Int)) = true := by simp; omega
              rw [if_pos h255] at HNw
              clear h255 hNE hPa hlt hk htk hk16 hT hP HCv
              go_wp2_with fail
              refine (HNw.out _).mono ?_
              rintro e w4 ⟨⟨v, rfl, hv⟩, hb4⟩
              clear hv
              have HB4 := Lib.hid (gbonq HB3.out hb4)
              clear hb4
              go_wp2_with fail
              refine (gknown_any _).mono ?_
              rintro e w5 ⟨rfl, hb5⟩
              go_wp2
              go_ret
              exact ⟨rfl, gbonq HB4.out hb5⟩
            · have t2 : decide ((255 : Int) < (T.size : Int)) = false := by simp; omega
              rw [if_neg h255] at HNw
              clear h255 hNE hPa hlt hk htk hk16 hT hP
              go_wp2_with fail
              refine (HNw.out _).mono ?_
              rintro e w4 ⟨⟨v, rfl, hv⟩, hb4⟩
              have P := Lib.hid (hv.1 rfl)
              have HB4 := Lib.hid (gbonq HB3.out hb4)
              have HMa := Lib.hid (match_any v l a k cap l w4 P.out (by have := HK16.out; omega) (HR.out.below HB4.out) HL.out (by omega) (fun x hx => by have := HS.out x hx; omega))
              have HMb := Lib.hid (fun w (hb : Below w4.heap.size w4 w) => match_any v l a2 len2 cap2 m w (P.out.below hb) (by have := HK16.out; omega) (HRm.out.below (gbonq HB4.out hb)) HLm.out (by omega) (fun x hx => by have := HSm.out x hx; omega))
              rw [HCv.out, decide_eq_true rfl] at HMa
              rw [HCv.out] at HMb
              have HSa := Lib.hid (fun w (hb : Below w4.heap.size w4 w) => sameS_any l m a a2 cap cap2 k len2 w (HR.out.below (gbonq HB4.out hb)) (HRm.out.below (gbonq HB4.out hb)) HL.out HLm.out)
              generalize decide (l = m) = r at HMb HSa
              clear hv hb4 HNw HCv
              go_wp2_with fail
              refine HMa.out.mono ?_
              rintro e w5 ⟨rfl, hb5⟩
              go_wp2_with fail
              refine (HMb.out w5 hb5).mono ?_
              rintro e w6 ⟨rfl, hb6⟩
              have HB6 := Lib.hid (gbonq hb5 hb6)
              clear hb6
              go_wp2_with fail
              refine (HSa.out w6 HB6.out).mono ?_
              rintro e w7 ⟨rfl, hb7⟩
              have HB7 := Lib.hid (gbonq HB6.out hb7)
              clear hb7 hb5
              have hrr : (r == r) = true := by cases r <;> rfl
              go_wp2_with fail
              refine (gknown_any _).mono ?_
              rintro e w8 ⟨rfl, hb8⟩
              go_wp2
              go_ret
              exact ⟨rfl, gbonq (gbonq HB4.out HB7.out) hb8⟩
end Go.Proofs.Ytaielamimkigmaa
