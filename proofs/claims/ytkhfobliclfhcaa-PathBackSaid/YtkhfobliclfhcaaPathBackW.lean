/-
  The statement on paths joined and read again.
-/
import Derived.Test.YtkhfobliclfhcaaPathSplitsW
namespace Go.Proofs.Ytkhfobliclfhcaa
open Go.RowKit Go.ChangeShapes

set_option maxRecDepth 100000 in
set_option maxHeartbeats 3000000 in
theorem pathBack_walk (a : Option Addr) (n cn : Nat) (zs : List ByteArray) (p : ByteArray) (w : World) (ha : RowS w a n cn zs) (hp : p.size ≤ maxLen) :
    Calls Try.prog 4 #[.slice a n cn, .string p] w fun e w' => e = .returned (.bool true) ∧ Below w.heap.size w w' := by
  obtain ⟨l, hl, hcn, RL⟩ := ha.rs
  have HLo := Lib.hid (fun W => longP_any p W hp)
  have S1 := Lib.hid (fun W (hB : Below w.heap.size w W) => size_any l a cn n W (RL.below hB) hl)
  have J1 := Lib.hid (fun W (hB : Below w.heap.size w W) => join_any l a cn n W (RL.below hB) hl hcn)
  have HR := Lib.hid RL
  have HL := Lib.hid hl
  have HJ := Lib.hid (ps_join (l := l))
  have hje : joinE l ≠ 0 → joinS l = ⟨#[]⟩ := joinS_not
  generalize joinS l = js at J1 HJ hje
  generalize joinE l = je at J1 HJ hje
  have HJE := Lib.hid hje
  have B0 := Lib.hid (Below.refl w.heap.size w)
  have HN := Lib.hid (ps_names (s := p))
  clear ha RL hl hcn hp hje
  go_enter Try.func4, Try.ntmps4
  go_wp2_with fail
  refine (S1.out _ B0.out).mono ?_
  rintro e w1 ⟨⟨z1, rfl⟩, hb⟩
  have B1 := Lib.hid (B0.out.trans (hb.mono B0.out.size))
  clear hb
  by_cases hz1 : 900 < z1
  · have t1 : decide (900 < z1) = true := decide_eq_true hz1
    clear hz1
    go_wp2_with fail
    refine (knownP_any _).mono ?_
    rintro e w' ⟨rfl, hb⟩
    go_wp2
    go_ret
    exact ⟨rfl, B1.out.trans (hb.mono B1.out.size)⟩
  have t1 : decide (900 < z1) = false := decide_eq_false hz1
  clear hz1
  by_cases hlong : 2000 < p.size
  · rw [decide_eq_true hlong] at HLo
    clear hlong
    go_wp2_with fail
    refine (HLo.out _).mono ?_
    rintro e w' ⟨rfl, rfl⟩
    go_wp2_with fail
    refine (knownP_any _).mono ?_
    rintro e w' ⟨rfl, hb⟩
    go_wp2
    go_ret
    exact ⟨rfl, B1.out.trans (hb.mono B1.out.size)⟩
  rw [decide_eq_false hlong] at HLo
  clear hlong
  go_wp2_with fail
  refine (HLo.out _).mono ?_
  rintro e w' ⟨rfl, rfl⟩
  go_wp2_with fail
  refine (J1.out _ B1.out).mono ?_
  rintro e w2 ⟨rfl, hb⟩
  have B2 := Lib.hid (B1.out.trans (hb.mono B1.out.size))
  clear hb
  go_wp2_with fail
  by_cases hz : je = 0 ∧ js.size ≤ 255
  · obtain ⟨rfl, hs⟩ := hz
    have HP := Lib.hid (HJ.out rfl hs)
    have t2 : decide ((js.size : Int) ≤ 255) = true := by simp; omega
    clear hs
    refine (parse_any js _).mono ?_
    rintro r w3 ⟨⟨h3, a3, k3, c3, rfl, hrs3, hlen3, -⟩ | ⟨h3, -⟩, hb⟩
    · have B3' := Lib.hid (B2.out.trans (hb.mono B2.out.size))
      have HS := Lib.hid (sameS_any l _ a a3 cn c3 n k3 w3 (HR.out.below B3'.out) hrs3 HL.out hlen3)
      rw [decide_eq_true HP.out.2.symm] at HS
      clear hb hrs3 hlen3 h3 HP
      go_wp2_with fail
      refine HS.out.mono ?_
      rintro e w3 ⟨rfl, hb⟩
      have B3 := Lib.hid (B3'.out.trans (hb.mono B3'.out.size))
      clear hb HS B3'
      go_wp2_with fail
      refine (parse_any p _).mono ?_
      rintro r w4 ⟨⟨g0, a4, k4, c4, rfl, hrs4, hlen4, hkc4⟩ | ⟨g0, rfl⟩, hb⟩
      · have B4 := Lib.hid (B3.out.trans (hb.mono B3.out.size))
        have R4 := Lib.hid hrs4
        have L4 := Lib.hid hlen4
        have JN := Lib.hid (join_any (parts p) a4 c4 k4 w4 hrs4 hlen4 hkc4)
        rw [joinE_parts g0] at JN
        have hsh := join_short g0
        have hpj := ps_join (joinE_parts g0) (by have := (HN.out g0).2.2.1; omega)
        generalize joinS (parts p) = q at JN hsh hpj
        have HP := Lib.hid hpj
        have t5 : decide ((q.size : Int) ≤ (p.size : Int)) = true := by simp; omega
        have t6 : (q.size : Int) ≤ (p.size : Int) := by omega
        have H0 := Lib.hid g0
        clear hb hrs4 hlen4 hkc4 hsh hpj g0
        go_wp2_with fail
        refine JN.out.mono ?_
        rintro e w5 ⟨rfl, hb⟩
        have B5 := Lib.hid (B4.out.trans (hb.mono B4.out.size))
        have R5 := Lib.hid (R4.out.below hb)
        clear hb
        go_wp2_with fail
        refine (parse_any q _).mono ?_
        rintro r w6 ⟨⟨h6, a6, k6, c6, rfl, hrs6, hlen6, -⟩ | ⟨h6, -⟩, hb⟩
        · have B6 := Lib.hid (B5.out.trans (hb.mono B5.out.size))
          have HS := Lib.hid (sameS_any _ _ a4 a6 c4 c6 k4 k6 w6 (R5.out.below hb) hrs6 L4.out hlen6)
          rw [decide_eq_true HP.out.2.symm] at HS
          clear hb hrs6 hlen6 h6
          go_wp2_with fail
          refine HS.out.mono ?_
          rintro e w7 ⟨rfl, hb⟩
          have B7 := Lib.hid (B6.out.trans (hb.mono B6.out.size))
          clear hb
          go_wp2_with fail
          refine (knownP_any _).mono ?_
          rintro e w' ⟨rfl, hb⟩
          go_wp2
          go_ret
          exact ⟨rfl, B7.out.trans (hb.mono B7.out.size)⟩
        · exact absurd HP.out.1 h6
      · have B4 := Lib.hid (B3.out.trans (hb.mono B3.out.size))
        generalize psE p = x4 at g0
        have t5 : (x4 != 0) = true := bne_iff_ne.2 g0
        have JN := Lib.hid (fun W => join_any [] none 0 0 W Rs.nil rfl (Nat.le_refl _))
        rw [joinS_none rfl, joinE_yes (l := []) (fun x hx => by cases hx) (by decide)] at JN
        clear hb g0
        go_wp2_with fail
        refine (JN.out _).mono ?_
        rintro e w5 ⟨rfl, hb⟩
        have B5 := Lib.hid (B4.out.trans (hb.mono B4.out.size))
        clear hb
        go_wp2_with fail
        refine (parseD _).mono ?_
        rintro r w6 ⟨⟨a6, c6, rfl⟩, hb⟩
        have B6 := Lib.hid (B5.out.trans (hb.mono B5.out.size))
        clear hb
        go_wp2_with fail
        refine (knownP_any _).mono ?_
        rintro e w' ⟨rfl, hb⟩
        go_wp2
        go_ret
        exact ⟨rfl, B6.out.trans (hb.mono B6.out.size)⟩
    · exact absurd HP.out.1 h3
  have hp3 := parse_any js w2
  by_cases hje : je = 0
  · subst hje
    have t2 : decide ((js.size : Int) ≤ 255) = false := by simp; omega
    clear hz
    refine hp3.mono ?_
    rintro r w3 ⟨hr, hb⟩
    have B3 := Lib.hid (B2.out.trans (hb.mono B2.out.size))
    obtain ⟨a3, k3, c3, e3, rfl⟩ : ∃ a3 k3 c3 e3, r = .returned (.tuple #[.slice a3 k3 c3, .int .i64 e3]) := by
      rcases hr with ⟨_, a', k', c', h, _⟩ | ⟨_, h⟩
      · exact ⟨_, _, _, _, h⟩
      · exact ⟨_, _, _, _, h⟩
    clear hb hr hp3
    go_wp2_with fail
    refine (parse_any p _).mono ?_
    rintro r w4 ⟨⟨g0, a4, k4, c4, rfl, hrs4, hlen4, hkc4⟩ | ⟨g0, rfl⟩, hb⟩
    · have B4 := Lib.hid (B3.out.trans (hb.mono B3.out.size))
      have R4 := Lib.hid hrs4
      have L4 := Lib.hid hlen4
      have JN := Lib.hid (join_any (parts p) a4 c4 k4 w4 hrs4 hlen4 hkc4)
      rw [joinE_parts g0] at JN
      have hsh := join_short g0
      have hpj := ps_join (joinE_parts g0) (by have := (HN.out g0).2.2.1; omega)
      generalize joinS (parts p) = q at JN hsh hpj
      have HP := Lib.hid hpj
      have t5 : decide ((q.size : Int) ≤ (p.size : Int)) = true := by simp; omega
      have t6 : (q.size : Int) ≤ (p.size : Int) := by omega
      have H0 := Lib.hid g0
      clear hb hrs4 hlen4 hkc4 hsh hpj g0
      go_wp2_with fail
      refine JN.out.mono ?_
      rintro e w5 ⟨rfl, hb⟩
      have B5 := Lib.hid (B4.out.trans (hb.mono B4.out.size))
      have R5 := Lib.hid (R4.out.below hb)
      clear hb
      go_wp2_with fail
      refine (parse_any q _).mono ?_
      rintro r w6 ⟨⟨h6, a6, k6, c6, rfl, hrs6, hlen6, -⟩ | ⟨h6, -⟩, hb⟩
      · have B6 := Lib.hid (B5.out.trans (hb.mono B5.out.size))
        have HS := Lib.hid (sameS_any _ _ a4 a6 c4 c6 k4 k6 w6 (R5.out.below hb) hrs6 L4.out hlen6)
        rw [decide_eq_true HP.out.2.symm] at HS
        clear hb hrs6 hlen6 h6
        go_wp2_with fail
        refine HS.out.mono ?_
        rintro e w7 ⟨rfl, hb⟩
        have B7 := Lib.hid (B6.out.trans (hb.mono B6.out.size))
        clear hb
        go_wp2_with fail
        refine (knownP_any _).mono ?_
        rintro e w' ⟨rfl, hb⟩
        go_wp2
        go_ret
        exact ⟨rfl, B7.out.trans (hb.mono B7.out.size)⟩
      · exact absurd HP.out.1 h6
    · have B4 := Lib.hid (B3.out.trans (hb.mono B3.out.size))
      generalize psE p = x4 at g0
      have t5 : (x4 != 0) = true := bne_iff_ne.2 g0
      have JN := Lib.hid (fun W => join_any [] none 0 0 W Rs.nil rfl (Nat.le_refl _))
      rw [joinS_none rfl, joinE_yes (l := []) (fun x hx => by cases hx) (by decide)] at JN
      clear hb g0
      go_wp2_with fail
      refine (JN.out _).mono ?_
      rintro e w5 ⟨rfl, hb⟩
      have B5 := Lib.hid (B4.out.trans (hb.mono B4.out.size))
      clear hb
      go_wp2_with fail
      refine (parseD _).mono ?_
      rintro r w6 ⟨⟨a6, c6, rfl⟩, hb⟩
      have B6 := Lib.hid (B5.out.trans (hb.mono B5.out.size))
      clear hb
      go_wp2_with fail
      refine (knownP_any _).mono ?_
      rintro e w' ⟨rfl, hb⟩
      go_wp2
      go_ret
      exact ⟨rfl, B6.out.trans (hb.mono B6.out.size)⟩
  · have t2 : (je == 0) = false := beq_eq_false_iff_ne.2 hje
    clear hz hje
    refine hp3.mono ?_
    rintro r w3 ⟨hr, hb⟩
    have B3 := Lib.hid (B2.out.trans (hb.mono B2.out.size))
    obtain ⟨a3, k3, c3, e3, rfl⟩ : ∃ a3 k3 c3 e3, r = .returned (.tuple #[.slice a3 k3 c3, .int .i64 e3]) := by
      rcases hr with ⟨_, a', k', c', h, _⟩ | ⟨_, h⟩
      · exact ⟨_, _, _, _, h⟩
      · exact ⟨_, _, _, _, h⟩
    clear hb hr hp3
    go_wp2_with fail
    refine (parse_any p _).mono ?_
    rintro r w4 ⟨⟨g0, a4, k4, c4, rfl, hrs4, hlen4, hkc4⟩ | ⟨g0, rfl⟩, hb⟩
    · have B4 := Lib.hid (B3.out.trans (hb.mono B3.out.size))
      have R4 := Lib.hid hrs4
      have L4 := Lib.hid hlen4
      have JN := Lib.hid (join_any (parts p) a4 c4 k4 w4 hrs4 hlen4 hkc4)
      rw [joinE_parts g0] at JN
      have hsh := join_short g0
      have hpj := ps_join (joinE_parts g0) (by have := (HN.out g0).2.2.1; omega)
      generalize joinS (parts p) = q at JN hsh hpj
      have HP := Lib.hid hpj
      have t5 : decide ((q.size : Int) ≤ (p.size : Int)) = true := by simp; omega
      have t6 : (q.size : Int) ≤ (p.size : Int) := by omega
      have H0 := Lib.hid g0
      clear hb hrs4 hlen4 hkc4 hsh hpj g0
      go_wp2_with fail
      refine JN.out.mono ?_
      rintro e w5 ⟨rfl, hb⟩
      have B5 := Lib.hid (B4.out.trans (hb.mono B4.out.size))
      have R5 := Lib.hid (R4.out.below hb)
      clear hb
      go_wp2_with fail
      refine (parse_any q _).mono ?_
      rintro r w6 ⟨⟨h6, a6, k6, c6, rfl, hrs6, hlen6, -⟩ | ⟨h6, -⟩, hb⟩
      · have B6 := Lib.hid (B5.out.trans (hb.mono B5.out.size))
        have HS := Lib.hid (sameS_any _ _ a4 a6 c4 c6 k4 k6 w6 (R5.out.below hb) hrs6 L4.out hlen6)
        rw [decide_eq_true HP.out.2.symm] at HS
        clear hb hrs6 hlen6 h6
        go_wp2_with fail
        refine HS.out.mono ?_
        rintro e w7 ⟨rfl, hb⟩
        have B7 := Lib.hid (B6.out.trans (hb.mono B6.out.size))
        clear hb
        go_wp2_with fail
        refine (knownP_any _).mono ?_
        rintro e w' ⟨rfl, hb⟩
        go_wp2
        go_ret
        exact ⟨rfl, B7.out.trans (hb.mono B7.out.size)⟩
      · exact absurd HP.out.1 h6
    · have B4 := Lib.hid (B3.out.trans (hb.mono B3.out.size))
      generalize psE p = x4 at g0
      have t5 : (x4 != 0) = true := bne_iff_ne.2 g0
      have JN := Lib.hid (fun W => join_any [] none 0 0 W Rs.nil rfl (Nat.le_refl _))
      rw [joinS_none rfl, joinE_yes (l := []) (fun x hx => by cases hx) (by decide)] at JN
      clear hb g0
      go_wp2_with fail
      refine (JN.out _).mono ?_
      rintro e w5 ⟨rfl, hb⟩
      have B5 := Lib.hid (B4.out.trans (hb.mono B4.out.size))
      clear hb
      go_wp2_with fail
      refine (parseD _).mono ?_
      rintro r w6 ⟨⟨a6, c6, rfl⟩, hb⟩
      have B6 := Lib.hid (B5.out.trans (hb.mono B5.out.size))
      clear hb
      go_wp2_with fail
      refine (knownP_any _).mono ?_
      rintro e w' ⟨rfl, hb⟩
      go_wp2
      go_ret
      exact ⟨rfl, B6.out.trans (hb.mono B6.out.size)⟩
end Go.Proofs.Ytkhfobliclfhcaa
