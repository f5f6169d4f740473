/-
  The statement that a page is whole, torn or erased.
-/
import Derived.Test.YtofdmfkncgaelaaTornChip
import Derived.Test.YtofdmfkncgaelaaNandScript
import Derived.Test.YtofdmfkncgaelaaRowLB
import Derived.Deep.CutBlock
import Derived.Deep.CutRange
import Derived.Deep.DeepCutAuto
namespace Go.Proofs.Ytofdmfkncgaelaa
open Go.RowKit Crcm Tagm Go.ChangeShapes

/-- the bytes of the page of that number -/
def pb (ls : List (List Int)) (i : Nat) : List Int := pg 1 ((i + 1 : Nat) : Int) ((i + 1 : Nat) : Int) 1 (pgL ls[i]!)
theorem pb_len (ls : List (List Int)) (i : Nat) : (pb ls i).length = 96 := by unfold pb; rw [pg_length, pgL_len]
theorem pb_rt {i : Nat} (h : i < 8) : Rt 1 ((i + 1 : Nat) : Int) ((i + 1 : Nat) : Int) 1 := by unfold Rt; omega
/-- what stands in the pages behind the programming: so many, and whether one was torn -/
def Qf (ls : List (List Int)) (dl : List Int) (n : Nat) (t : Bool) : Nat → Option (List Int) := if t then Qt (pb ls) n (tornL 96 dl) else Qs (pb ls) n

set_option maxRecDepth 100000 in
set_option maxHeartbeats 40000000 in
theorem topTorn_main (a0 : Option Addr) (len0 cap0 : Nat) (ls : List (List Int)) (x : Int) (A : Nat) (a2 : Option Addr) (len2 cap2 : Nat) (l2 : List Int) (w : World) (hls : Rl w a0 ls) (hl0 : ls.length = len0) (h0m : len0 ≤ maxLen) (hx : U8 x) (hA : x.tmod 8 = (A : Int)) (hA8 : A < 8)
    (hr2 : Rw w a2 l2) (hl2 : l2.length = len2) (hc2 : len2 ≤ cap2) (hm2 : cap2 ≤ maxLen) :
    Calls Try.prog 5 #[.slice a0 len0 cap0, .int .u8 x, .slice a2 len2 cap2] w fun e w' => e = .returned (.bool true) ∧ Below w.heap.size w w' := by
  have HAw := Lib.hid (fun w => awake_any w)
  have HSm := Lib.hid (fun w => small_any w)
  have HNew := Lib.hid (fun w => new_any 16 8 64 w gd16 [] none 0 0 Ri.nil rfl)
  unfold geoV at HNew
  have hwA : wrap64 (A : Int) = (A : Int) := IntWalk.wrap64_in _ ⟨by omega, by omega⟩
  have HLs := Lib.hid hls
  have HL0 := Lib.hid hl0
  have HR2 := Lib.hid hr2
  have HL2 := Lib.hid hl2
  unfold maxLen at h0m hm2
  have hcq := cutT a2 len2 cap2 96 96 rfl
  have HX := Lib.hid hx
  clear hls hl0 hr2 hl2 hx
  go_enter Try.func5, Try.ntmps5
  go_upto_if 24 with fail
  go_cut [2] (fun s2 wx => ∃ (m : Nat) (dl : List Int), s2 = .slice a2 m cap2 ∧ Hid (Rw w a2 dl ∧ dl.length = m ∧ m ≤ 96 ∧ m ≤ cap2) ∧ w = wx)
  case first =>
    by_cases h96 : 96 < len2
    · have hq : decide (96 < (len2 : Int)) = true := by simp; omega
      have hct := hcq (by omega)
      go_wp2
      go_meet
      exact ⟨96, l2.take 96, rfl, Lib.hid ⟨HR2.out.take 96, by rw [List.length_take, HL2.out]; omega, Nat.le_refl _, by omega⟩, rfl⟩
    · have hq : decide (96 < (len2 : Int)) = false := by simp; omega
      go_wp2
      go_meet
      exact ⟨len2, l2, rfl, Lib.hid ⟨HR2.out, HL2.out, by omega, hc2⟩, rfl⟩
  case rest =>
    obtain ⟨m, dl, rfl, HD, hwc⟩ := hcut
    subst hwc
    clear hcq HR2 HL2
    go_wp2_with fail
    refine (HSm.out _).mono ?_
    rintro e w0 ⟨rfl, hb0⟩
    go_wp2_with fail
    refine (HNew.out _).mono ?_
    rintro r w1 ⟨hB, ⟨-, o, rfl, hC, hF⟩ | ⟨⟨y, hy, -⟩, -⟩⟩
    · have HF := Lib.hid (fun b hb => Nat.le_trans hb0.size (hF b hb))
      have hB1 := hb0.trans (hB.mono hb0.size)
      have hal := (Below.refl w1.heap.size w1).alloc (Nat.le_refl _) (.cells #[.int .i64 A, .int .i64 2, .slice a2 m cap2] 63)
      have hbk := Blk.new w1 63 #[.int .i64 A, .int .i64 2, .slice a2 m cap2]
      have C2 := hC.below hal
      have B2 := hB1.alloc hB1.size (.cells #[.int .i64 A, .int .i64 2, .slice a2 m cap2] 63)
      have hold := hC.old
      obtain ⟨W2, hW2⟩ : ∃ W2, w1.alloc (.cells #[.int .i64 A, .int .i64 2, .slice a2 m cap2] 63) = W2 := ⟨_, rfl⟩
      rw [hW2] at hbk C2 B2
      have hfl : FlAt W2 (o.F 16) (.slice (some ⟨w1.heap.size, 0, none⟩) 1 1) [⟨A, 2, dl⟩] := by
        refine ⟨_, 1, rfl, by show 1 ≤ maxLen; unfold maxLen; omega, .inr ⟨w1.heap.size, 0, rfl, fun hx => by have := hold _ hx; omega, fun j hj => ?_⟩⟩
        obtain rfl : j = 0 := by simpa using hj
        refine ⟨hbk.cell 0, hbk.cell 1, a2, cap2, ?_, ⟨HD.out.1.below B2, fun b off s e hne hx => ?_⟩, ?_⟩
        · have := hbk.cell 2
          rw [show (0 + 0 * 3 + 2 : Nat) = 2 from rfl, this]
          show some (Value.slice a2 m cap2) = some (Value.slice a2 dl.length cap2)
          rw [HD.out.2.1]
        · rcases HD.out.1.2.2 with h | ⟨b', off', e', hc⟩
          · exact hne h
          · have h1 := block_lt_of_cell (hc 0 (List.length_pos_iff.2 hne))
            have h2 := HF.out b hx
            rw [e'] at e
            injection e with e
            injection e with e
            have h3 : b' < w.heap.size := h1
            omega
        · show dl.length ≤ cap2
          have := HD.out.2.1
          have := HD.out.2.2.2
          omega
      have hsc := script_yes C2 (some ⟨w1.heap.size, 0, none⟩) 1 1 [⟨A, 2, dl⟩] hfl rfl (by omega) (fun f hf => by
        obtain rfl : f = ⟨A, 2, dl⟩ := by simpa using hf
        show dl.length ≤ 20000
        have := HD.out.2.1
        have := HD.out.2.2.1
        omega) (fun f hf => by
        obtain rfl : f = ⟨A, 2, dl⟩ := by simpa using hf
        show (0 : Int) ≤ (A : Int)
        omega)
      have e96 : [(⟨A, 2, dl⟩ : Fl)].map (trF ((newC 16 8 64 []).sz + 32)) = [⟨A, 2, dl⟩] := by
        show [trF 96 ⟨A, 2, dl⟩] = _
        unfold trF
        rw [show (⟨(A : Int), 2, dl⟩ : Fl).data.take 96 = dl from List.take_of_length_le (by show dl.length ≤ 96; have := HD.out.2.1; have := HD.out.2.2.1; omega)]
      rw [e96, cF_zero A dl (pb ls)] at hsc
      have HScr := Lib.hid hsc
      have HB2 := Lib.hid B2
      clear hal hbk C2 B2 hold hfl hsc e96 hB1 hC hF hB hb0 HSm HNew
      go_wp2_with fail
      refine HScr.out.mono ?_
      rintro r w3 ⟨rfl, hc3, hk3⟩
      have HC3 := Lib.hid hc3
      have HB3 := Lib.hid (HB2.out.trans (hk3.below (fun b hb => HF.out b hb) HB2.out.size))
      clear hc3 hk3 HScr hW2 HB2
      go_upto_block 0 with fail
      go_cut [9] (fun s9 wx => ∃ (n : Nat) (t : Bool) (sn : Int), s9 = .int .i64 n ∧ n ≤ 8 ∧ n ≤ len0 ∧ (t = true → n = A ∧ n < len0) ∧ Hid (ChAt wx (o.F 16) o (cF A dl (Qf ls dl n t) (!t) sn 0)) ∧ Hid (Below w.heap.size w wx))
      case first =>
        go_wp2_with fail
        go_loopw [9, 10] (fun v i wr => ∃ k : Nat, k ≤ A ∧ k ≤ len0 ∧ v = .int .i64 k ∧ i = .int .i64 k ∧ Hid (ChAt wr (o.F 16) o (cF A dl (Qs (pb ls) k) true k 0)) ∧ Hid (Below w.heap.size w wr)) (fun _ i _ => len0 - (intOf i).toNat)
        case atStart => exact ⟨0, by omega, by omega, rfl, rfl, HC3, HB3⟩
        case round =>
          obtain ⟨k, hkA, hk0, rfl, rfl, hC, hB⟩ := hrel
          by_cases hlt : k < len0
          · have q1 : (k : Int) < (len0 : Int) := by omega
            have q2 : (k : Int) < 8 := by omega
            have hkl : k < ls.length := by rw [HL0.out]; exact hlt
            obtain ⟨b0, off0, A0, c0, rfl, hcell, hlc, hrw⟩ := (HLs.out.below hB.out).at hkl
            have HPb : Hid (pb ls k = pg 1 ((k + 1 : Nat) : Int) ((k + 1 : Nat) : Int) 1 (pgL ls[k]!)) := Lib.hid rfl
            obtain ⟨z, hz⟩ : ∃ z, ls[k]! = z := ⟨_, rfl⟩
            rw [hz] at hcell hlc hrw HPb
            have HPg := Lib.hid (page_any A0 z.length c0 z wr hrw rfl)
            have HC := Lib.hid hC.out
            clear hkl hlc hrw hC hz
            go_wp2_with fail
            refine HPg.out.mono ?_
            rintro r w4 ⟨⟨g4, rfl, -, hr4⟩, hb4⟩
            have hrt := pb_rt (i := k) (by omega)
            have hpl := pb_len ls k
            rw [HPb.out] at hpl
            have ek : ((k + 1 : Nat) : Int) = (k : Int) + 1 := by omega
            rw [ek] at hrt HPb hpl
            have HWr := Lib.hid (write_new 1 ((k : Int) + 1) ((k : Int) + 1) 1 (some ⟨g4, 0, none⟩) 64 64 (pgL z) w4 hrt (by decide) hr4 (pgL_len _))
            unfold tg at HWr
            have HB4 := Lib.hid (hB.out.trans (hb4.mono hB.out.size))
            have HC4 := Lib.hid (HC.out.below hb4)
            have HPL := Lib.hid hpl
            have HEk := Lib.hid ek
            clear hrt hpl hcell hr4 hb4 HPg hB HC ek
            go_wp2_with fail
            refine HWr.out.mono ?_
            rintro r w5 ⟨⟨A5, c5, rfl, hc5, hr5, hA5⟩, hb5⟩
            have HB5 := Lib.hid (HB4.out.trans (hb5.mono HB4.out.size))
            have hC5 := HC4.out.below hb5
            rw [← HPb.out] at hr5
            have hrx : RwX w5 (o.F 16) A5 (pb ls k) := ⟨hr5, fun b off s e _ gg => by
              have h1 := HC4.out.old b gg
              have h2 := hA5 b off s e
              omega⟩
            have HPr := Lib.hid (program_yes hC5 2 k A5 c5 (pb ls k) hrx (pb_len ls k) (cF_pr (by omega)))
            by_cases hkA2 : k = A
            · subst hkA2
              rw [cF_torn_e, cF_torn (by omega)] at HPr
              clear hC5 hrx hr5 hA5 hb5 HWr HC4 HB4
              go_wp2_with fail
              refine HPr.out.mono ?_
              rintro r w6 ⟨rfl, hc6, hk6⟩
              have HC6 := Lib.hid hc6
              have HB6 := Lib.hid (HB5.out.trans (hk6.below (fun b hb => HF.out b hb) HB5.out.size))
              clear hc6 hk6 HPr
              go_wp2
              go_meet
              exact ⟨k, true, ((k + 1 : Nat) : Int), rfl, by omega, hk0, fun _ => ⟨rfl, hlt⟩, HC6, HB6⟩
            · rw [cF_next_e (by omega), cF_next (by omega) (by omega)] at HPr
              clear hC5 hrx hr5 hA5 hb5 HWr HC4 HB4
              go_wp2_with fail
              refine HPr.out.mono ?_
              rintro r w6 ⟨rfl, hc6, hk6⟩
              have HC6 := Lib.hid hc6
              have HB6 := Lib.hid (HB5.out.trans (hk6.below (fun b hb => HF.out b hb) HB5.out.size))
              clear hc6 hk6 HPr
              go_wp2
              go_roundw
              case rel => exact ⟨k + 1, by omega, by omega, by go_num, by go_num, HC6, HB6⟩
              case measure => simp [intOf]; omega
          · have q1 : ¬ (k : Int) < (len0 : Int) := by omega
            have HC := Lib.hid hC.out
            clear hC
            go_wp2
            go_meet
            exact ⟨k, false, k, rfl, by omega, hk0, fun h => (by cases h), HC, hB⟩
      case rest =>
        obtain ⟨n, t, sn, rfl, hn8, hn0, ht, HC, HB⟩ := hcut
        have HSt := Lib.hid (start_any HC.out)
        go_wp2_with fail
        refine HSt.out.mono ?_
        rintro r w4 ⟨rfl, hc4, hk4⟩
        have HC4 : Hid (ChAt w4 (o.F 16) o (cF A dl (Qf ls dl n t) true sn 0)) := Lib.hid hc4
        have HB4 := Lib.hid (HB.out.trans (hk4.below (fun b hb => HF.out b hb) HB.out.size))
        clear hc4 hk4 HSt HC HB
        go_wp2_with fail
        go_loopw [14] (fun i wr => ∃ (k : Nat) (r : Int), k ≤ 8 ∧ i = .int .i64 k ∧ Hid (ChAt wr (o.F 16) o (cF A dl (Qf ls dl n t) true sn r)) ∧ Hid (Below w.heap.size w wr)) (fun i _ => 8 - (intOf i).toNat)
        case atStart => exact ⟨0, 0, by omega, rfl, HC4, HB4⟩
        case round =>
          obtain ⟨k, r, hk8, rfl, hC, hB⟩ := hrel
          by_cases hlt : k < 8
          · have q2 : (k : Int) < 8 := by omega
            have HRd := Lib.hid (read_yes hC.out 2 k (cF_rd hlt))
            have HLr : Hid (rdL (cF A dl (Qf ls dl n t) true sn r) 2 k = (Qf ls dl n t k).getD (List.replicate 96 255)) := Lib.hid rfl
            have HSz : Hid ((cF A dl (Qf ls dl n t) true sn r).sz + 32 = 96) := Lib.hid rfl
            rw [HSz.out] at HRd
            clear HSz hC
            go_wp2_with fail
            refine HRd.out.mono ?_
            rintro e w5 ⟨⟨g5, c5, rfl, hc5, hg5, hrw5, hlen5⟩, hch5, hk5⟩
            have HC5 : Hid (ChAt w5 (o.F 16) o (cF A dl (Qf ls dl n t) true sn (wrap64 (r + 1)))) := Lib.hid hch5
            have HB5 := Lib.hid (hB.out.trans (hk5.below (fun b hb => HF.out b hb) hB.out.size))
            rw [HLr.out] at hrw5 hlen5
            have HTR := Lib.hid (fun (L : List Int) (W : World) (h : Rw W (some ⟨g5, 0, none⟩) L) (h2 : L.length = 96) => read_any (some ⟨g5, 0, none⟩) 96 c5 L W h h2 hc5)
            clear hch5 hk5 hB HRd HLr hg5
            by_cases hkn : k < n
            · have hQ : Qf ls dl n t k = some (pb ls k) := by
                unfold Qf Qt Qs
                cases t <;> simp [hkn]
              rw [hQ] at hrw5 hlen5
              have hrt := pb_rt (i := k) hlt
              obtain ⟨v1, v2, v3, v4, -⟩ := Vl_pg (pgL ls[k]!) hrt
              have hzf := rdF_pg (pgL ls[k]!) hrt (by rw [pgL_len]; decide)
              have htk := pg_take 1 ((k + 1 : Nat) : Int) ((k + 1 : Nat) : Int) 1 (pgL ls[k]!)
              rw [pgL_len] at v1 v2 v3 v4 htk
              have hRd := HTR.out (pb ls k) w5 hrw5 hlen5
              have hkl : k < ls.length := by rw [HL0.out]; omega
              have qk : (k : Int) < (len0 : Int) := by omega
              have qn : (k : Int) < (n : Int) := by omega
              have qe : ¬ (k : Int) = (n : Int) := by omega
              have qf : ((k : Int) == (n : Int)) = false := by simpa using qe
              have HRD := Lib.hid hRd
              have HV := Lib.hid (show rdF (pb ls k) = 0 ∧ tk 64 (pb ls k) = 1 ∧ tp 64 (pb ls k) = (k : Int) + 1 ∧ ts 64 (pb ls k) = (k : Int) + 1 ∧ te 64 (pb ls k) = 1 ∧ (pb ls k).take 64 = pgL ls[k]! ∧ (pb ls k).length = 96 from ⟨hzf, v1, by rw [show tp 64 (pb ls k) = ((k + 1 : Nat) : Int) from v2]; omega, by rw [show ts 64 (pb ls k) = ((k + 1 : Nat) : Int) from v3]; omega, v4, htk, hlen5⟩)
              obtain ⟨P, hP⟩ : ∃ P, pb ls k = P := ⟨_, rfl⟩
              rw [hP] at HRD HV
              obtain ⟨z, hz⟩ : ∃ z, ls[k]! = z := ⟨_, rfl⟩
              have HAt := Lib.hid (fun W (hb : Below w.heap.size w W) => (HLs.out.below hb).at hkl)
              rw [hz] at HV HAt
              clear hQ hrt v1 v2 v3 v4 hzf htk hRd hrw5 hlen5 HTR hP hz qe
              go_wp2_with fail
              refine HRD.out.mono ?_
              rintro e w6 ⟨hb6, ⟨hf, -⟩ | ⟨-, n', hn', -, -, A6, c6, rfl, hA6⟩⟩
              · exact absurd HV.out.1 hf
              obtain rfl : n' = 64 := by have := HV.out.2.2.2.2.2.2; omega
              rw [HV.out.2.1, HV.out.2.2.1, HV.out.2.2.2.1, HV.out.2.2.2.2.1]
              rw [HV.out.2.2.2.2.2.1] at hA6
              unfold tg
              have hb7 := hb6.alloc hb6.size (.cells #[.int .i64 1, .int .u32 ((k : Int) + 1), .int .u64 ((k : Int) + 1), .int .u64 1] 68)
              have HB6 := Lib.hid (HB5.out.trans (hb7.mono HB5.out.size))
              have HC6 := Lib.hid (HC5.out.below hb7)
              have HA7 := Lib.hid (hA6.below ((Below.refl _ _).alloc (Nat.le_refl _) (.cells #[.int .i64 1, .int .u32 ((k : Int) + 1), .int .u64 ((k : Int) + 1), .int .u64 1] 68)))
              obtain ⟨b0, off0, A0, c0, rfl, hcell, hlc, hrw⟩ := HAt.out _ HB6.out
              have HPg := Lib.hid (page_any A0 z.length c0 z _ hrw rfl)
              clear hb6 hb7 hA6 hkl hlc hrw HRD HAt hn'
              go_wp2_with fail
              refine HPg.out.mono ?_
              rintro e w8 ⟨⟨g8, rfl, -, hr8⟩, hb8⟩
              have HS := same_any A6 (some ⟨g8, 0, none⟩) c6 64 64 64 (pgL z) (pgL z) w8 (HA7.out.below hb8) hr8 (pgL_len _) (pgL_len _)
              rw [decide_eq_true rfl] at HS
              have HC8 := Lib.hid (HC6.out.below hb8)
              have HB8 := Lib.hid (HB6.out.trans (hb8.mono HB6.out.size))
              clear hr8 hb8 HPg hcell HC6 HB6
              go_wp2_with fail
              refine HS.mono ?_
              rintro e w' ⟨rfl, rfl⟩
              clear HS
              go_wp2
              go_roundw
              case rel => exact ⟨k + 1, _, by omega, by go_num, HC8, HB8⟩
              case measure => simp [intOf]; omega
            · have qn : ¬ (k : Int) < (n : Int) := by omega
              have qg : (n : Int) ≤ (k : Int) := by omega
              by_cases htk : k = n ∧ t = true
              · obtain ⟨hk, htt⟩ := htk
                subst hk
                obtain ⟨hkA, hkl0⟩ := ht htt
                have hQ : Qf ls dl k t k = some (tornL 96 dl) := by
                  unfold Qf Qt
                  rw [htt]
                  simp
                rw [hQ] at hrw5 hlen5
                have hrw5 : Rw w5 (some ⟨g5, 0, none⟩) (tornL 96 dl) := hrw5
                have hlen5 : (tornL 96 dl).length = 96 := hlen5
                have HRD := Lib.hid (HTR.out (tornL 96 dl) w5 hrw5 hlen5)
                have qk : (k : Int) < (len0 : Int) := by omega
                have qe : ((k : Int) == (k : Int)) = true := by simp
                have qA : ((k : Int) == (A : Int)) = true := beq_iff_eq.2 (by omega)
                have hkl : k < ls.length := by rw [HL0.out]; exact hkl0
                have HAt := Lib.hid (fun W (hb : Below w.heap.size w W) => (HLs.out.below hb).at hkl)
                obtain ⟨z, hz⟩ : ∃ z, ls[k]! = z := ⟨_, rfl⟩
                rw [hz] at HAt
                have HTo := Lib.hid (fun W (hb : Below w.heap.size w W) => ttorn_any a2 m cap2 dl W (HD.out.1.below hb) HD.out.2.1)
                have HVa := Lib.hid (fun W g (hr : Rw W (some ⟨g, 0, none⟩) (tornL 96 dl)) => valid_any (some ⟨g, 0, none⟩) 96 96 (tornL 96 dl) W hr hlen5 (Nat.le_refl _))
                have hcs : rdF (tornL 96 dl) = 20 ∨ rdF (tornL 96 dl) = 21 ∨ rdF (tornL 96 dl) = 0 := by
                  unfold rdF
                  rw [hlen5, if_pos (by decide)]
                  split
                  · exact .inl rfl
                  · split
                    · exact .inr (.inr rfl)
                    · exact .inr (.inl rfl)
                have HLen := Lib.hid hlen5
                obtain ⟨L, hL⟩ : ∃ L, tornL 96 dl = L := ⟨_, rfl⟩
                rw [hL] at HRD HVa hcs HTo HLen
                clear hQ hrw5 hlen5 HTR hL hz hkl htt ht hkA qn
                rcases hcs with hcs | hcs | hcs
                · have HR0 := Lib.hid hcs
                  clear hcs HVa HTo HAt
                  go_wp2_with fail
                  refine HRD.out.mono ?_
                  rintro e w6 ⟨hb6, ⟨hf, rfl⟩ | ⟨hf, -⟩⟩
                  · rw [HR0.out]
                    unfold Bad tg
                    have hb7 := hb6.alloc hb6.size (.cells #[.int .i64 0, .int .u32 0, .int .u64 0, .int .u64 0] 68)
                    have HB7 := Lib.hid (HB5.out.trans (hb7.mono HB5.out.size))
                    have HC6 := Lib.hid (HC5.out.below hb7)
                    clear hb6 hb7 hf HRD
                    go_wp2
                    go_roundw
                    case rel => exact ⟨k + 1, _, by omega, by go_num, HC6, HB7⟩
                    case measure => simp [intOf]; omega
                  · exact absurd hf (by rw [HR0.out]; decide)
                · have HR0 := Lib.hid hcs
                  clear hcs HVa HTo HAt
                  go_wp2_with fail
                  refine HRD.out.mono ?_
                  rintro e w6 ⟨hb6, ⟨hf, rfl⟩ | ⟨hf, -⟩⟩
                  · rw [HR0.out]
                    unfold Bad tg
                    have hb7 := hb6.alloc hb6.size (.cells #[.int .i64 0, .int .u32 0, .int .u64 0, .int .u64 0] 68)
                    have HB7 := Lib.hid (HB5.out.trans (hb7.mono HB5.out.size))
                    have HC6 := Lib.hid (HC5.out.below hb7)
                    clear hb6 hb7 hf HRD
                    go_wp2
                    go_roundw
                    case rel => exact ⟨k + 1, _, by omega, by go_num, HC6, HB7⟩
                    case measure => simp [intOf]; omega
                  · exact absurd hf (by rw [HR0.out]; decide)
                · have HR0 := Lib.hid hcs
                  rw [decide_eq_true hcs] at HVa
                  clear hcs
                  go_wp2_with fail
                  refine HRD.out.mono ?_
                  rintro e w6 ⟨hb6, ⟨hf, -⟩ | ⟨-, n', hn', -, -, A6, c6, rfl, hA6⟩⟩
                  · exact absurd HR0.out hf
                  obtain rfl : n' = 64 := by have := HLen.out; omega
                  obtain ⟨T1, hT1⟩ : ∃ T, tk 64 L = T := ⟨_, rfl⟩
                  obtain ⟨T2, hT2⟩ : ∃ T, tp 64 L = T := ⟨_, rfl⟩
                  obtain ⟨T3, hT3⟩ : ∃ T, ts 64 L = T := ⟨_, rfl⟩
                  obtain ⟨T4, hT4⟩ : ∃ T, te 64 L = T := ⟨_, rfl⟩
                  rw [hT1, hT2, hT3, hT4]
                  unfold tg
                  have hb7 := hb6.alloc hb6.size (.cells #[.int .i64 T1, .int .u32 T2, .int .u64 T3, .int .u64 T4] 68)
                  have HB6 := Lib.hid (HB5.out.trans (hb7.mono HB5.out.size))
                  have HC6 := Lib.hid (HC5.out.below hb7)
                  have HA7 := Lib.hid (hA6.below ((Below.refl _ _).alloc (Nat.le_refl _) (.cells #[.int .i64 T1, .int .u32 T2, .int .u64 T3, .int .u64 T4] 68)))
                  obtain ⟨b0, off0, A0, c0, rfl, hcell, hlc, hrw⟩ := HAt.out _ HB6.out
                  have HPg := Lib.hid (page_any A0 z.length c0 z _ hrw rfl)
                  have HTL := Lib.hid (show (L.take 64).length = 64 by rw [List.length_take, HLen.out]; rfl)
                  clear hb6 hb7 hA6 hlc hrw HRD HAt hn' hT1 hT2 hT3 hT4
                  by_cases hp : T2 = (k : Int) + 1
                  · have qp : (T2 == (k : Int) + 1) = true := beq_iff_eq.2 hp
                    clear hp
                    go_wp2_with fail
                    refine HPg.out.mono ?_
                    rintro e w8 ⟨⟨g8, rfl, -, hr8⟩, hb8⟩
                    have HS := same_any A6 (some ⟨g8, 0, none⟩) c6 64 64 64 (L.take 64) (pgL z) w8 (HA7.out.below hb8) hr8 HTL.out (pgL_len _)
                    have HC8 := Lib.hid (HC6.out.below hb8)
                    have HB8 := Lib.hid (HB6.out.trans (hb8.mono HB6.out.size))
                    obtain ⟨sb, hsb⟩ : ∃ sb, decide (L.take 64 = pgL z) = sb := ⟨_, rfl⟩
                    rw [hsb] at HS
                    clear hr8 hb8 HPg hcell HC6 HB6 hsb
                    go_wp2_with fail
                    refine HS.mono ?_
                    rintro e w' ⟨rfl, rfl⟩
                    clear HS
                    go_wp2_with fail
                    refine (HTo.out _ HB8.out).mono ?_
                    rintro e w9 ⟨rfl, hr9, hb9⟩
                    have HC9 := Lib.hid (HC8.out.below hb9)
                    have HB9 := Lib.hid (HB8.out.trans (hb9.mono HB8.out.size))
                    clear hb9 HC8
                    go_wp2_with fail
                    refine (HVa.out _ _ hr9).mono ?_
                    rintro e w10 ⟨rfl, hb10⟩
                    have HC10 := Lib.hid (HC9.out.below hb10)
                    have HB10 := Lib.hid (HB9.out.trans (hb10.mono HB9.out.size))
                    clear hb10 HC9 hr9
                    go_wp2
                    go_roundw
                    case rel => exact ⟨k + 1, _, by omega, by go_num, HC10, HB10⟩
                    case measure => simp [intOf]; omega
                  · have qp : (T2 == (k : Int) + 1) = false := beq_eq_false_iff_ne.2 hp
                    clear hp HPg hcell
                    go_wp2_with fail
                    refine (HTo.out _ HB6.out).mono ?_
                    rintro e w9 ⟨rfl, hr9, hb9⟩
                    have hz7 : (w6.alloc (.cells #[.int .i64 T1, .int .u32 T2, .int .u64 T3, .int .u64 T4] 68)).heap.size = w6.heap.size + 1 := by simp
                    rw [hz7] at hr9
                    clear hz7
                    have HC9 := Lib.hid (HC6.out.below hb9)
                    have HB9 := Lib.hid (HB6.out.trans (hb9.mono HB6.out.size))
                    clear hb9 HC6
                    go_wp2_with fail
                    refine (HVa.out _ _ hr9).mono ?_
                    rintro e w10 ⟨rfl, hb10⟩
                    have HC10 := Lib.hid (HC9.out.below hb10)
                    have HB10 := Lib.hid (HB9.out.trans (hb10.mono HB9.out.size))
                    clear hb10 HC9 hr9
                    go_wp2
                    go_roundw
                    case rel => exact ⟨k + 1, _, by omega, by go_num, HC10, HB10⟩
                    case measure => simp [intOf]; omega
              · have hQ : Qf ls dl n t k = none := by
                  unfold Qf Qt Qs
                  cases t
                  · simp [hkn]
                  · have hne : ¬ k = n := fun h => htk ⟨h, rfl⟩
                    simp [hkn, hne]
                rw [hQ] at hrw5 hlen5
                have hrw5 : Rw w5 (some ⟨g5, 0, none⟩) (List.replicate 96 255) := hrw5
                have HRD := Lib.hid (HTR.out (List.replicate 96 255) w5 hrw5 (List.length_replicate ..))
                obtain ⟨L, hL⟩ : ∃ L : List Int, List.replicate 96 255 = L := ⟨_, rfl⟩
                have HR0 := Lib.hid rdF_er
                rw [hL] at HRD HR0
                clear hQ hrw5 hlen5 HTR hL htk hkn
                go_wp2_with fail
                refine HRD.out.mono ?_
                rintro e w6 ⟨hb6, ⟨hf, rfl⟩ | ⟨hf, -⟩⟩
                · rw [HR0.out]
                  unfold Bad tg
                  have hb7 := hb6.alloc hb6.size (.cells #[.int .i64 0, .int .u32 0, .int .u64 0, .int .u64 0] 68)
                  have HB7 := Lib.hid (HB5.out.trans (hb7.mono HB5.out.size))
                  have HC6 := Lib.hid (HC5.out.below hb7)
                  clear hb6 hb7 hf HRD ht
                  by_cases y1 : k < len0 <;> by_cases y2 : k = n <;> by_cases y3 : n = A
                  all_goals
                    try (have g1 : (k : Int) < (len0 : Int) := by omega)
                    try (have g1 : ¬ (k : Int) < (len0 : Int) := by omega)
                    try (have g2 : ((k : Int) == (n : Int)) = true := beq_iff_eq.2 (by omega))
                    try (have g2 : ((k : Int) == (n : Int)) = false := beq_eq_false_iff_ne.2 (by omega))
                    try (have g3 : ((n : Int) == (A : Int)) = true := beq_iff_eq.2 (by omega))
                    try (have g3 : ((n : Int) == (A : Int)) = false := beq_eq_false_iff_ne.2 (by omega))
                    clear y1 y2 y3
                    go_wp2
                    go_roundw
                    case rel => exact ⟨k + 1, _, by omega, by go_num, HC6, HB7⟩
                    case measure => simp [intOf]; omega
                · exact absurd hf (by rw [HR0.out]; decide)
          · have q2 : ¬ (k : Int) < 8 := by omega
            go_wp2_with fail
            refine (HAw.out _).mono ?_
            rintro e w9 ⟨rfl, hb9⟩
            have HB9 := Lib.hid (hB.out.trans (hb9.mono hB.out.size))
            clear hb9
            go_wp2
            go_ret
            exact ⟨rfl, HB9.out⟩
    · cases hy

end Go.Proofs.Ytofdmfkncgaelaa
