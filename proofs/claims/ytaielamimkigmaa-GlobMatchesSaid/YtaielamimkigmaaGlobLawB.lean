/-
  The law GlobBegins.
-/
import Derived.Test.YtaielamimkigmaaGlobBegM
namespace Go.Proofs.Ytaielamimkigmaa
open Go.RowKit Go.ChangeShapes Globm Go.ChangeMaps

theorem nwE_len {s : ByteArray} (h : nwE s = 0) : (parts s).length ≤ 16 := by
  unfold nwE at h
  split at h
  · cases h
  · split at h
    · cases h
    · omega

set_option maxRecDepth 100000 in
set_option maxHeartbeats 1000000 in
theorem globBegins_walk (s : ByteArray) (a : Option Addr) (len cap : Nat) (z : List ByteArray) (w : World) (_hn : s.size ≤ maxLen) (hz : RowS w a len cap z) (hu : ∀ s ∈ z, s.size ≤ 140737488351232) :
    Calls Try.prog 7 #[.string s, .slice a len cap] w fun e w' => e = .returned (.bool true) ∧ Below w.heap.size w w' := by
  obtain ⟨l, hl, hc, hR, hzl⟩ := hz.rsz hu
  clear hz hu
  by_cases h300 : 300 < s.size
  · have t1 : decide ((300 : Int) < (s.size : Int)) = true := by simp; omega
    clear h300 hR hzl hl hc
    go_enter Try.func7, Try.ntmps7
    go_wp2_with fail
    refine (gknown_any w).mono ?_
    rintro e w2 ⟨rfl, hb⟩
    go_wp2
    go_ret
    exact ⟨rfl, hb⟩
  · have t1 : decide ((300 : Int) < (s.size : Int)) = false := by simp; omega
    have HM := Lib.hid (many_any l a cap len w hR hl hzl)
    have HNw := Lib.hid (fun w => new_any s w (by omega))
    obtain ⟨L, hLe⟩ : ∃ L, parts s = L := ⟨_, rfl⟩
    have HLen : Hid (nwE s = 0 → L.length ≤ 16) := Lib.hid (fun h => by rw [← hLe]; exact nwE_len h)
    obtain ⟨E, hE⟩ : ∃ E, nwE s = E := ⟨_, rfl⟩
    rw [hE] at HLen
    rw [hE, hLe] at HNw
    have HR := Lib.hid hR
    have HL := Lib.hid hl
    clear h300 hR hzl hl hLe hE
    go_enter Try.func7, Try.ntmps7
    go_wp2_with fail
    refine HM.out.mono ?_
    rintro e w2 ⟨⟨b, rfl, hb0⟩, hb⟩
    cases b with
    | true =>
      clear hb0
      go_wp2_with fail
      refine (gknown_any _).mono ?_
      rintro e w3 ⟨rfl, hb3⟩
      go_wp2
      go_ret
      exact ⟨rfl, gbonq hb hb3⟩
    | false =>
      obtain ⟨hn20, hs400⟩ := hb0.out rfl
      have HS := Lib.hid hs400
      have HB := Lib.hid hb
      clear hb0 hs400 hb
      go_wp2_with fail
      refine (HNw.out _).mono ?_
      rintro e w4 ⟨⟨v, rfl, hv⟩, hb4⟩
      have HB4 := Lib.hid (gbonq HB.out hb4)
      by_cases hE : E = 0
      · subst hE
        have P := Lib.hid (hv.1 rfl)
        have hL16 := HLen.out rfl
        have HMa := match_any v L a len cap l w4 P.out (by omega) (HR.out.below HB4.out) HL.out (by omega) (fun x hx => by have := HS.out x hx; omega)
        clear hv hb4
        cases hm : cv (L.map pk) l (fun _ => false) 0 0 with
        | false =>
          rw [hm] at HMa
          have HMa := Lib.hid HMa
          clear hm
          go_wp2_with fail
          refine HMa.out.mono ?_
          rintro e w5 ⟨rfl, hb5⟩
          have HB5 := Lib.hid (gbonq HB4.out hb5)
          clear hb5
          go_wp2_with fail
          refine (gknown_any _).mono ?_
          rintro e w6 ⟨rfl, hb6⟩
          go_wp2
          go_ret
          exact ⟨rfl, gbonq HB5.out hb6⟩
        | true =>
          rw [hm] at HMa
          have HMa := Lib.hid HMa
          have HMy := Lib.hid (fun (k : Nat) (w : World) (hk : k ≤ len) (hb : Below w4.heap.size w4 w) => may_any v L a k cap (l.take k) w (P.out.below hb) (by omega) ((HR.out.below (gbonq HB4.out hb)).take k) (by rw [List.length_take, HL.out]; omega) (by omega) (fun x hx => by have := HS.out x (List.mem_of_mem_take hx); omega))
          have HBg := Lib.hid (fun (k : Nat) (hk : k ≤ len) => begins hm (k := k) (by rw [HL.out]; exact hk))
          clear hm
          go_wp2_with fail
          refine HMa.out.mono ?_
          rintro e w5 ⟨rfl, hb5⟩
          have HB5 := Lib.hid hb5
          clear hb5 HMa HM HNw
          have hnI : (len : Int) ≤ 20 := by omega
          go_wp2_with fail
          go_loopw [7] (fun i wr => ∃ k : Nat, i = .int .i64 k ∧ k ≤ len ∧ wr = w5) (fun i _ => len - (intOf i).toNat)
          case atStart => exact ⟨0, rfl, by omega, rfl⟩
          case round =>
            obtain ⟨i, rfl, hi, rfl⟩ := hrel
            by_cases hlt : i < len
            · have hil : i < l.length := by have := HL.out; omega
              obtain ⟨-, -, h0 | ⟨b, off, rfl, hcl⟩⟩ := HR.out.below (gbonq HB4.out HB5.out)
              · rw [h0] at hil; simp at hil
              have c1 := hcl i hil
              have hltI : (i : Int) < (len : Int) := by omega
              generalize l[i] = x at c1
              clear hcl
              cases hx : x.toList.isEmpty with
              | true =>
                go_wp2_with fail
                refine (gknown_any _).mono ?_
                rintro e w6 ⟨rfl, hb6⟩
                go_wp2
                go_ret
                exact ⟨rfl, gbonq (gbonq HB4.out HB5.out) hb6⟩
              | false =>
                go_wp2
                go_roundw
                case rel => exact ⟨i + 1, by go_num, by omega, by trivial⟩
                case measure => simp [intOf]; omega
            · have hie : i = len := by omega
              subst hie
              have hnI2 : ¬ (i : Int) < (i : Int) := by omega
              clear hlt hi
              go_wp2_with fail
              go_loopw [8] (fun y wr => ∃ k : Nat, y = .int .i64 k ∧ k ≤ i + 1 ∧ Hid (Below w4.heap.size w4 wr)) (fun y _ => i + 1 - (intOf y).toNat)
              case atStart => exact ⟨0, rfl, by omega, HB5⟩
              case round =>
                obtain ⟨k, rfl, hk, hbr⟩ := hrel
                by_cases hki : k ≤ i
                · have HMk := Lib.hid (HMy.out k wr hki hbr.out)
                  rw [HBg.out k hki] at HMk
                  have hkI : (k : Int) ≤ (i : Int) := by omega
                  have hkc : k ≤ cap := by omega
                  go_wp2_with fail
                  refine HMk.out.mono ?_
                  rintro e w6 ⟨rfl, hb6⟩
                  have HB6 := Lib.hid (gbonq hbr.out hb6)
                  clear hb6
                  go_wp2
                  go_roundw
                  case rel => exact ⟨k + 1, by go_num, by omega, HB6⟩
                  case measure => simp [intOf]; omega
                · have hkI : (i : Int) < (k : Int) := by omega
                  go_wp2_with fail
                  refine (gknown_any _).mono ?_
                  rintro e w6 ⟨rfl, hb6⟩
                  go_wp2
                  go_ret
                  exact ⟨rfl, gbonq (gbonq HB4.out hbr.out) hb6⟩
      · have t0 : (E != 0) = true := by simpa using hE
        clear hv hE
        go_wp2_with fail
        refine (gknown_any _).mono ?_
        rintro e w6 ⟨rfl, hb6⟩
        go_wp2
        go_ret
        exact ⟨rfl, gbonq HB4.out hb6⟩
end Go.Proofs.Ytaielamimkigmaa
