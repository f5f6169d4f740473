/-
  The statement on more bytes 47 in a path.
-/
import Derived.Test.YtkhfobliclfhcaaPathSlash
import Derived.Test.YtkhfobliclfhcaaNum
import Derived.Laws.Concat
namespace Go.Proofs.Ytkhfobliclfhcaa
open Go.RowKit Go.ChangeShapes

set_option maxRecDepth 100000 in
set_option maxHeartbeats 1000000 in
/-- the last lines: two paths of one answer are parsed alike -/
theorem slashes_more (j q : Nat) (hj : j < q) (hq : q < 20) : (sls j).size + (⟨#[47]⟩ : ByteArray).size ≤ 9223372036854775807 := by
  rw [sls_size]; show j + 1 ≤ _; omega

set_option maxRecDepth 100000 in
set_option maxHeartbeats 600000 in
theorem pathSlashes_walk (p : ByteArray) (a n : Int) (w : World) (_hp : p.size ≤ maxLen) (ha : (Lit.int .i64 a).wf = true) (hn : (Lit.int .u8 n).wf = true) :
    Calls Try.prog 5 #[.string p, .int .i64 a, .int .u8 n] w fun e w' => e = .returned (.bool true) ∧ Below w.heap.size w w' := by
  obtain ⟨a0, a1⟩ := bounds_i64 ha
  obtain ⟨n0, n1⟩ := bounds_u8 hn
  clear ha hn
  by_cases hlong : 200 < p.size
  · have t0 : decide ((200 : Int) < (p.size : Int)) = true := by simp; omega
    clear hlong a0 a1 n0 n1
    go_enter Try.func5, Try.ntmps5
    go_wp2_with fail
    refine (knownP_any _).mono ?_
    rintro e w' ⟨rfl, hb⟩
    go_wp2
    go_ret
    exact ⟨rfl, hb⟩
  have t0 : decide ((200 : Int) < (p.size : Int)) = false := by simp; omega
  by_cases hz : p.size = 0
  · have t1 : ((p.size : Int) == 0) = true := by rw [hz]; rfl
    clear hlong a0 a1 n0 n1 hz
    go_enter Try.func5, Try.ntmps5
    go_wp2_with fail
    refine (knownP_any _).mono ?_
    rintro e w' ⟨rfl, hb⟩
    go_wp2
    go_ret
    exact ⟨rfl, hb⟩
  have t1 : ((p.size : Int) == 0) = false := beq_eq_false_iff_ne.2 (by omega)
  obtain ⟨k, hk⟩ : ∃ k : Nat, am a p.size = k := ⟨(am a p.size).toNat, by have := am_lo a p.size; omega⟩
  have hkp : k < p.size := by have := am_hi a p.size (by omega); omega
  have HA := Lib.hid (fun W => among_any a p.size W a0 a1 (by omega))
  rw [hk] at HA
  obtain ⟨q, hq⟩ : ∃ q : Nat, n.tmod 20 = q := ⟨(n.tmod 20).toNat, by have := Int.tmod_nonneg 20 n0; omega⟩
  have q20 : q < 20 := by have := Int.tmod_lt_of_pos n (by omega : (0 : Int) < 20); omega
  have hl0 : 0 < p.size := by omega
  have i0 : (0 : Int) < (p.size : Int) := by omega
  have kl : (k : Int) < (p.size : Int) := by omega
  have k0 : (0 : Int) ≤ (k : Int) := by omega
  have kle : (k : Int) ≤ (p.size : Int) := by omega
  have hA1 := fun W => run_string_add_sum (P := Try.prog) W p (sls q) (by rw [sls_size]; omega)
  have hA2 := fun W => run_string_add_sum (P := Try.prog) W (p.extract 0 k) (sls q) (by rw [sls_size, ByteArray.size_extract]; omega)
  have hA3 := fun W => run_string_add_sum (P := Try.prog) W (p.extract 0 k ++ sls q) (p.extract k p.size) (by rw [ByteArray.size_append, sls_size, ByteArray.size_extract, ByteArray.size_extract]; omega)
  have HIn := Lib.hid (fun hb hv => sl_ins (p := p) k q (by omega) (by omega) q20 hb hv)
  have HEn := Lib.hid (fun hb => sl_end (p := p) q (by omega) (by omega) q20 hb)
  have HSl := Lib.hid (slB_byte hl0)
  have HV := Lib.hid (fun hv => byte_at (s := p) hkp hv)
  have HN := Lib.hid (fun hv => byte_not (s := p) hkp hv)
  clear a0 a1 n0 n1 hk
  have body : ∀ (z1 : Bool) (z2 : Bool) (Q : ByteArray), ((p[k].toNat : Int) == 47) = z1 → ((p[0].toNat : Int) != 47) = z2 → Q = (if z1 then p.extract 0 k ++ sls q ++ p.extract k p.size else p ++ sls q) → (z2 = false → psE Q = psE p ∧ parts Q = parts p) →
      Calls Try.prog 5 #[.string p, .int .i64 a, .int .u8 n] w fun e w' => e = .returned (.bool true) ∧ Below w.heap.size w w' := by
    intro z1 z2 Q hz1 hz2 hQ hE
    have HE := Lib.hid hE
    clear hE
    cases z1 <;> cases z2 <;> simp only [if_true, Bool.false_eq_true, if_false] at hQ <;> subst hQ
    · go_enter Try.func5, Try.ntmps5
      go_wp2_with fail
      refine (HA.out _).mono ?_
      rintro e w' ⟨rfl, rfl⟩
      go_wp2_with fail
      go_loop [8, 9] (fun m i => ∃ j : Nat, j ≤ q ∧ m = .string (sls j) ∧ i = .int .i64 j) (fun _ i => q - (intOf i).toNat)
      case atStart => exact ⟨0, Nat.zero_le _, rfl, rfl⟩
      case round =>
        obtain ⟨j, hj, rfl, rfl⟩ := hrel
        by_cases hlt : j < q
        · have hadd := fun W => run_string_add_sum (P := Try.prog) W (sls j) ⟨#[47]⟩ (slashes_more j q hlt q20)
          have hsm := sls_more j
          have jq : (j : Int) < (q : Int) := by omega
          go_wp2
          go_round
          case rel => exact ⟨j + 1, by omega, rfl, by go_num⟩
          case measure => simp [intOf]; omega
        have hjq : j = q := by omega
        subst hjq
        go_wp2_with fail
        have B0 := Lib.hid (Below.refl w.heap.size w)
        have HE2 := Lib.hid (HE.out (by first | rfl | trivial))
        clear hA1 hA2 hA3 HIn HEn HSl HV HN hz1 hz2 HE
        refine (parse_any p _).mono ?_
        rintro r w1 ⟨⟨h0, a1, k1, c1, rfl, hrs, hlen, -⟩ | ⟨h0, rfl⟩, hb1⟩
        · have B1 := Lib.hid (B0.out.trans (hb1.mono B0.out.size))
          have R1 := Lib.hid hrs
          have L1 := Lib.hid hlen
          clear hb1 hrs hlen
          go_wp2_with fail
          refine (parse_any _ _).mono ?_
          rintro r w2 ⟨⟨_, a2, k2, c2, rfl, hrs', hlen', -⟩ | ⟨h1, _⟩, hb2⟩
          · have B2 := Lib.hid (B1.out.trans (hb2.mono B1.out.size))
            have HS := Lib.hid (sameS_any _ _ a1 a2 c1 c2 k1 k2 w2 (R1.out.below hb2) hrs' L1.out hlen')
            rw [decide_eq_true HE2.out.2.symm] at HS
            clear hb2 hrs' hlen' R1 B1
            go_wp2_with fail
            refine HS.out.mono ?_
            rintro r w3 ⟨rfl, hb⟩
            have B3 := Lib.hid (B2.out.trans (hb.mono B2.out.size))
            clear hb
            go_wp2_with fail
            refine (knownP_any _).mono ?_
            rintro e w' ⟨rfl, hb⟩
            go_wp2
            go_ret
            exact ⟨rfl, B3.out.trans (hb.mono B3.out.size)⟩
          · exact absurd (HE2.out.1.trans h0) h1
        · have B1 := Lib.hid (B0.out.trans (hb1.mono B0.out.size))
          clear hb1
          generalize hps : psE p = x at h0
          have HX := Lib.hid hps
          clear hps
          go_wp2_with fail
          refine (parse_any _ _).mono ?_
          rintro r w2 ⟨⟨h1, _⟩ | ⟨_, hr⟩, hb2⟩
          · rw [HE2.out.1, HX.out] at h1; exact absurd h1 h0
          · rw [HE2.out.1, HX.out] at hr
            subst hr
            have B2 := Lib.hid (B1.out.trans (hb2.mono B1.out.size))
            have HS := Lib.hid (fun W => sameS_any [] [] none none 0 0 0 0 W Rs.nil Rs.nil rfl rfl)
            rw [decide_eq_true rfl] at HS
            clear hb2 B1
            go_wp2_with fail
            refine (HS.out _).mono ?_
            rintro r w3 ⟨rfl, hb⟩
            have B3 := Lib.hid (B2.out.trans (hb.mono B2.out.size))
            clear hb
            go_wp2_with fail
            refine (knownP_any _).mono ?_
            rintro e w' ⟨rfl, hb⟩
            go_wp2
            go_ret
            exact ⟨rfl, B3.out.trans (hb.mono B3.out.size)⟩
    · go_enter Try.func5, Try.ntmps5
      go_wp2_with fail
      refine (HA.out _).mono ?_
      rintro e w' ⟨rfl, rfl⟩
      go_wp2_with fail
      go_loop [8, 9] (fun m i => ∃ j : Nat, j ≤ q ∧ m = .string (sls j) ∧ i = .int .i64 j) (fun _ i => q - (intOf i).toNat)
      case atStart => exact ⟨0, Nat.zero_le _, rfl, rfl⟩
      case round =>
        obtain ⟨j, hj, rfl, rfl⟩ := hrel
        by_cases hlt : j < q
        · have hadd := fun W => run_string_add_sum (P := Try.prog) W (sls j) ⟨#[47]⟩ (slashes_more j q hlt q20)
          have hsm := sls_more j
          have jq : (j : Int) < (q : Int) := by omega
          go_wp2
          go_round
          case rel => exact ⟨j + 1, by omega, rfl, by go_num⟩
          case measure => simp [intOf]; omega
        have hjq : j = q := by omega
        subst hjq
        go_wp2_with fail
        have B0 := Lib.hid (Below.refl w.heap.size w)
        refine (knownP_any _).mono ?_
        rintro e w' ⟨rfl, hb⟩
        go_wp2
        go_ret
        exact ⟨rfl, B0.out.trans (hb.mono B0.out.size)⟩
    · go_enter Try.func5, Try.ntmps5
      go_wp2_with fail
      refine (HA.out _).mono ?_
      rintro e w' ⟨rfl, rfl⟩
      go_wp2_with fail
      go_loop [8, 9] (fun m i => ∃ j : Nat, j ≤ q ∧ m = .string (sls j) ∧ i = .int .i64 j) (fun _ i => q - (intOf i).toNat)
      case atStart => exact ⟨0, Nat.zero_le _, rfl, rfl⟩
      case round =>
        obtain ⟨j, hj, rfl, rfl⟩ := hrel
        by_cases hlt : j < q
        · have hadd := fun W => run_string_add_sum (P := Try.prog) W (sls j) ⟨#[47]⟩ (slashes_more j q hlt q20)
          have hsm := sls_more j
          have jq : (j : Int) < (q : Int) := by omega
          go_wp2
          go_round
          case rel => exact ⟨j + 1, by omega, rfl, by go_num⟩
          case measure => simp [intOf]; omega
        have hjq : j = q := by omega
        subst hjq
        go_wp2_with fail
        refine wp_region_later (by kernel_rfl) (by kernel_rfl) ?_
        repeat (go_big_quiet_step (fail))
        refine wpQuiet_nil ?_
        rintro _ ⟨mm, rfl⟩
        have B0 := Lib.hid mm.bel
        go_wp2_with fail
        have HE2 := Lib.hid (HE.out (by first | rfl | trivial))
        clear hA1 hA2 hA3 HIn HEn HSl HV HN hz1 hz2 HE
        refine (parse_any p _).mono ?_
        rintro r w1 ⟨⟨h0, a1, k1, c1, rfl, hrs, hlen, -⟩ | ⟨h0, rfl⟩, hb1⟩
        · have B1 := Lib.hid (B0.out.trans (hb1.mono B0.out.size))
          have R1 := Lib.hid hrs
          have L1 := Lib.hid hlen
          clear hb1 hrs hlen
          go_wp2_with fail
          refine (parse_any _ _).mono ?_
          rintro r w2 ⟨⟨_, a2, k2, c2, rfl, hrs', hlen', -⟩ | ⟨h1, _⟩, hb2⟩
          · have B2 := Lib.hid (B1.out.trans (hb2.mono B1.out.size))
            have HS := Lib.hid (sameS_any _ _ a1 a2 c1 c2 k1 k2 w2 (R1.out.below hb2) hrs' L1.out hlen')
            rw [decide_eq_true HE2.out.2.symm] at HS
            clear hb2 hrs' hlen' R1 B1
            go_wp2_with fail
            refine HS.out.mono ?_
            rintro r w3 ⟨rfl, hb⟩
            have B3 := Lib.hid (B2.out.trans (hb.mono B2.out.size))
            clear hb
            go_wp2_with fail
            refine (knownP_any _).mono ?_
            rintro e w' ⟨rfl, hb⟩
            go_wp2
            go_ret
            exact ⟨rfl, B3.out.trans (hb.mono B3.out.size)⟩
          · exact absurd (HE2.out.1.trans h0) h1
        · have B1 := Lib.hid (B0.out.trans (hb1.mono B0.out.size))
          clear hb1
          generalize hps : psE p = x at h0
          have HX := Lib.hid hps
          clear hps
          go_wp2_with fail
          refine (parse_any _ _).mono ?_
          rintro r w2 ⟨⟨h1, _⟩ | ⟨_, hr⟩, hb2⟩
          · rw [HE2.out.1, HX.out] at h1; exact absurd h1 h0
          · rw [HE2.out.1, HX.out] at hr
            subst hr
            have B2 := Lib.hid (B1.out.trans (hb2.mono B1.out.size))
            have HS := Lib.hid (fun W => sameS_any [] [] none none 0 0 0 0 W Rs.nil Rs.nil rfl rfl)
            rw [decide_eq_true rfl] at HS
            clear hb2 B1
            go_wp2_with fail
            refine (HS.out _).mono ?_
            rintro r w3 ⟨rfl, hb⟩
            have B3 := Lib.hid (B2.out.trans (hb.mono B2.out.size))
            clear hb
            go_wp2_with fail
            refine (knownP_any _).mono ?_
            rintro e w' ⟨rfl, hb⟩
            go_wp2
            go_ret
            exact ⟨rfl, B3.out.trans (hb.mono B3.out.size)⟩
    · go_enter Try.func5, Try.ntmps5
      go_wp2_with fail
      refine (HA.out _).mono ?_
      rintro e w' ⟨rfl, rfl⟩
      go_wp2_with fail
      go_loop [8, 9] (fun m i => ∃ j : Nat, j ≤ q ∧ m = .string (sls j) ∧ i = .int .i64 j) (fun _ i => q - (intOf i).toNat)
      case atStart => exact ⟨0, Nat.zero_le _, rfl, rfl⟩
      case round =>
        obtain ⟨j, hj, rfl, rfl⟩ := hrel
        by_cases hlt : j < q
        · have hadd := fun W => run_string_add_sum (P := Try.prog) W (sls j) ⟨#[47]⟩ (slashes_more j q hlt q20)
          have hsm := sls_more j
          have jq : (j : Int) < (q : Int) := by omega
          go_wp2
          go_round
          case rel => exact ⟨j + 1, by omega, rfl, by go_num⟩
          case measure => simp [intOf]; omega
        have hjq : j = q := by omega
        subst hjq
        go_wp2_with fail
        refine wp_region_later (by kernel_rfl) (by kernel_rfl) ?_
        repeat (go_big_quiet_step (fail))
        refine wpQuiet_nil ?_
        rintro _ ⟨mm, rfl⟩
        have B0 := Lib.hid mm.bel
        go_wp2_with fail
        refine (knownP_any _).mono ?_
        rintro e w' ⟨rfl, hb⟩
        go_wp2
        go_ret
        exact ⟨rfl, B0.out.trans (hb.mono B0.out.size)⟩
  by_cases hv : p.data.toList[k]? = some 47
  · by_cases hs : slB p = true
    · exact body true false _ (by rw [beq_iff_eq]; have := HV.out hv; omega) (by have := HSl.out.1 hs; simp only [bne_eq_false_iff_eq]; omega) rfl (fun _ => by simpa using HIn.out hs hv)
    · exact body true true _ (by rw [beq_iff_eq]; have := HV.out hv; omega) (bne_iff_ne.2 fun g => hs (HSl.out.2 (by omega))) rfl (fun h => by cases h)
  · by_cases hs : slB p = true
    · exact body false false _ (by have := HN.out hv; rw [beq_eq_false_iff_ne]; omega) (by have := HSl.out.1 hs; simp only [bne_eq_false_iff_eq]; omega) rfl (fun _ => by simpa using HEn.out hs)
    · exact body false true _ (by have := HN.out hv; rw [beq_eq_false_iff_ne]; omega) (bne_iff_ne.2 fun g => hs (HSl.out.2 (by omega))) rfl (fun h => by cases h)
end Go.Proofs.Ytkhfobliclfhcaa
