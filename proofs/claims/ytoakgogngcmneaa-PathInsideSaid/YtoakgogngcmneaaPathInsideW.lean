/-
  How great a row of texts is, as far as it is asked; what lies in what: the statement on rows of names in each other.
-/
import Derived.Test.YtoakgogngcmneaaPathKnown
namespace Go.Proofs.Ytoakgogngcmneaa
open Go.RowKit Go.ChangeShapes

theorem Ins.trans {l m k : List ByteArray} (h : Ins l m) (g : Ins m k) : Ins l k := by
  obtain ⟨h1, h2⟩ := h
  obtain ⟨g1, g2⟩ := g
  refine ⟨by omega, ?_⟩
  have : (l.take m.length).take k.length = k := by rw [h2]; exact g2
  rw [List.take_take, Nat.min_eq_left (by omega)] at this
  exact this
theorem Ins.not_self {l : List ByteArray} : ¬ Ins l l := fun h => absurd h.1 (by omega)
theorem Ins.not_back {l m : List ByteArray} (h : Ins l m) : ¬ Ins m l := fun g => by have := h.1; have := g.1; omega
theorem Ins.root {l : List ByteArray} (h : 0 < l.length) : Ins l [] := ⟨h, rfl⟩

set_option maxRecDepth 100000 in
set_option maxHeartbeats 1000000 in
theorem size_any (l : List ByteArray) (a : Option Addr) (c n : Nat) (w : World) (ha : Rs w a l) (hl : l.length = n) :
    Calls Try.prog 20 #[.slice a n c, .int .i64 900] w fun e w' => (∃ z : Int, e = .returned (.int .i64 z)) ∧ Below w.heap.size w w' := by
  have hm1 := ha.2.1
  unfold maxLen at hm1
  have n1 : n ≤ 9223372036854775807 := by omega
  have HA := Lib.hid ha.2.2
  have HL := Lib.hid hl
  clear ha hl hm1
  go_enter Try.func20, Try.ntmps20
  go_wp2_with fail
  go_loopw [5, 6] (fun x i wr => ∃ z : Int, ∃ k : Nat, k ≤ n ∧ x = .int .i64 z ∧ i = .int .i64 k ∧ Hid (Below w.heap.size w wr)) (fun _ i _ => n - (intOf i).toNat)
  case atStart => exact ⟨0, 0, by omega, rfl, rfl, Lib.hid (Below.refl _ _)⟩
  case round =>
    obtain ⟨z, k, hk, rfl, rfl, hbel⟩ := hrel
    by_cases hlt : k < n
    · have t1 : decide ((k : Int) < (n : Int)) = true := by simp; omega
      by_cases hz : z ≤ 900
      · have t2 : decide (z ≤ 900) = true := decide_eq_true hz
        have hkl : k < l.length := by have := HL.out; omega
        rcases HA.out with rfl | ⟨b1, o1, rfl, h1⟩
        · simp at hkl
        have c1 := (hbel.out.cell (block_lt_of_cell (h1 k hkl))).trans (h1 k hkl)
        generalize l[k] = x at c1
        have kl : (k : Int) < (n : Int) := by omega
        clear h1 hkl
        go_wp2
        go_roundw
        case rel => exact ⟨_, k + 1, by omega, rfl, by go_num, hbel⟩
        case measure => simp [intOf]; omega
      · have t2 : decide (z ≤ 900) = false := decide_eq_false hz
        go_wp2
        go_ret
        exact ⟨⟨_, rfl⟩, hbel.out⟩
    · have t1 : decide ((k : Int) < (n : Int)) = false := by simp; omega
      go_wp2
      go_ret
      exact ⟨⟨_, rfl⟩, hbel.out⟩

set_option maxRecDepth 100000 in
set_option maxHeartbeats 1500000 in
theorem pathInside_walk (a : Option Addr) (n cn : Nat) (zs : List ByteArray) (b : Option Addr) (q cq : Nat) (ys : List ByteArray) (d : Option Addr) (r cr : Nat) (xs : List ByteArray) (w : World)
    (ha : RowS w a n cn zs) (hb : RowS w b q cq ys) (hd : RowS w d r cr xs) :
    Calls Try.prog 7 #[.slice a n cn, .slice b q cq, .slice d r cr] w fun e w' => e = .returned (.bool true) ∧ Below w.heap.size w w' := by
  obtain ⟨l, hl, hcn, RL⟩ := ha.rs
  obtain ⟨m, hm, hcq, RM⟩ := hb.rs
  obtain ⟨k, hk, hcr, RK⟩ := hd.rs
  have S1 := Lib.hid (fun W (hB : Below w.heap.size w W) => size_any l a cn n W (RL.below hB) hl)
  have S2 := Lib.hid (fun W (hB : Below w.heap.size w W) => size_any m b cq q W (RM.below hB) hm)
  have S3 := Lib.hid (fun W (hB : Below w.heap.size w W) => size_any k d cr r W (RK.below hB) hk)
  have IAA := Lib.hid (fun W (hB : Below w.heap.size w W) => inside_any l l a a cn cn n n W (RL.below hB) (RL.below hB) hl hl hcn)
  have IAB := Lib.hid (fun W (hB : Below w.heap.size w W) => inside_any l m a b cn cq n q W (RL.below hB) (RM.below hB) hl hm hcn)
  have IBA := Lib.hid (fun W (hB : Below w.heap.size w W) => inside_any m l b a cq cn q n W (RM.below hB) (RL.below hB) hm hl hcq)
  have IBC := Lib.hid (fun W (hB : Below w.heap.size w W) => inside_any m k b d cq cr q r W (RM.below hB) (RK.below hB) hm hk hcq)
  have IAC := Lib.hid (fun W (hB : Below w.heap.size w W) => inside_any l k a d cn cr n r W (RL.below hB) (RK.below hB) hl hk hcn)
  have IAN := Lib.hid (fun W (hB : Below w.heap.size w W) => inside_any l [] a none cn 0 n 0 W (RL.below hB) Rs.nil hl rfl hcn)
  rw [decide_eq_false Ins.not_self] at IAA
  have HL := Lib.hid hl
  clear ha hb hd RL RM RK hl hm hk hcn hcq hcr
  have B0 := Lib.hid (Below.refl w.heap.size w)
  go_enter Try.func7, Try.ntmps7
  go_wp2_with fail
  refine (S1.out _ B0.out).mono ?_
  rintro e w1 ⟨⟨z1, rfl⟩, hb⟩
  have B1 := Lib.hid (B0.out.trans (hb.mono B0.out.size))
  clear hb
  by_cases hz1 : 900 < z1
  · have t1 : decide (900 < z1) = true := decide_eq_true hz1
    clear hz1
    go_wp2_with fail
    refine (knownP_any _).mono ?_
    rintro e w' ⟨rfl, hb⟩
    go_wp2
    go_ret
    exact ⟨rfl, B1.out.trans (hb.mono B1.out.size)⟩
  have t1 : decide (900 < z1) = false := decide_eq_false hz1
  clear hz1
  go_wp2_with fail
  refine (S2.out _ B1.out).mono ?_
  rintro e w2 ⟨⟨z2, rfl⟩, hb⟩
  have B2 := Lib.hid (B1.out.trans (hb.mono B1.out.size))
  clear hb
  by_cases hz2 : 900 < z2
  · have t2 : decide (900 < z2) = true := decide_eq_true hz2
    clear hz2
    go_wp2_with fail
    refine (knownP_any _).mono ?_
    rintro e w' ⟨rfl, hb⟩
    go_wp2
    go_ret
    exact ⟨rfl, B2.out.trans (hb.mono B2.out.size)⟩
  have t2 : decide (900 < z2) = false := decide_eq_false hz2
  clear hz2
  go_wp2_with fail
  refine (S3.out _ B2.out).mono ?_
  rintro e w3 ⟨⟨z3, rfl⟩, hb⟩
  have B3 := Lib.hid (B2.out.trans (hb.mono B2.out.size))
  clear hb
  by_cases hz3 : 900 < z3
  · have t3 : decide (900 < z3) = true := decide_eq_true hz3
    clear hz3
    go_wp2_with fail
    refine (knownP_any _).mono ?_
    rintro e w' ⟨rfl, hb⟩
    go_wp2
    go_ret
    exact ⟨rfl, B3.out.trans (hb.mono B3.out.size)⟩
  have t3 : decide (900 < z3) = false := decide_eq_false hz3
  clear hz3
  by_cases hab : Ins l m
  · have n0 : 0 < n := by have := HL.out; have := hab.1; omega
    have t4 : decide ((n : Int) = 0) = false := by simp; omega
    rw [decide_eq_true hab] at IAB
    rw [decide_eq_false hab.not_back] at IBA
    rw [decide_eq_true (Ins.root (by have := HL.out; omega))] at IAN
    by_cases hbc : Ins m k
    · rw [decide_eq_true hbc] at IBC
      rw [decide_eq_true (hab.trans hbc)] at IAC
      clear hab hbc
      go_wp2_with fail
      refine (IAB.out _ B3.out).mono ?_
      rintro e w4 ⟨rfl, hb⟩
      have B4 := Lib.hid (B3.out.trans (hb.mono B3.out.size))
      clear hb
      go_wp2_with fail
      refine (IBC.out _ B4.out).mono ?_
      rintro e w5 ⟨rfl, hb⟩
      have B5 := Lib.hid (B4.out.trans (hb.mono B4.out.size))
      clear hb
      go_wp2_with fail
      refine (IAC.out _ B5.out).mono ?_
      rintro e w6 ⟨rfl, hb⟩
      have B6 := Lib.hid (B5.out.trans (hb.mono B5.out.size))
      clear hb
      go_wp2_with fail
      refine (IAA.out _ B6.out).mono ?_
      rintro e w7 ⟨rfl, hb⟩
      have B7 := Lib.hid (B6.out.trans (hb.mono B6.out.size))
      clear hb
      go_wp2_with fail
      refine (IAB.out _ B7.out).mono ?_
      rintro e w8 ⟨rfl, hb⟩
      have B8 := Lib.hid (B7.out.trans (hb.mono B7.out.size))
      clear hb
      go_wp2_with fail
      refine (IBA.out _ B8.out).mono ?_
      rintro e w9 ⟨rfl, hb⟩
      have B9 := Lib.hid (B8.out.trans (hb.mono B8.out.size))
      clear hb
      go_wp2_with fail
      refine (IAN.out _ B9.out).mono ?_
      rintro e w10 ⟨rfl, hb⟩
      have B10 := Lib.hid (B9.out.trans (hb.mono B9.out.size))
      clear hb
      go_wp2_with fail
      refine (knownP_any _).mono ?_
      rintro e w' ⟨rfl, hb⟩
      go_wp2
      go_ret
      exact ⟨rfl, B10.out.trans (hb.mono B10.out.size)⟩
    · rw [decide_eq_false hbc] at IBC
      clear hab hbc
      go_wp2_with fail
      refine (IAB.out _ B3.out).mono ?_
      rintro e w11 ⟨rfl, hb⟩
      have B11 := Lib.hid (B3.out.trans (hb.mono B3.out.size))
      clear hb
      go_wp2_with fail
      refine (IBC.out _ B11.out).mono ?_
      rintro e w12 ⟨rfl, hb⟩
      have B12 := Lib.hid (B11.out.trans (hb.mono B11.out.size))
      clear hb
      go_wp2_with fail
      refine (IAA.out _ B12.out).mono ?_
      rintro e w13 ⟨rfl, hb⟩
      have B13 := Lib.hid (B12.out.trans (hb.mono B12.out.size))
      clear hb
      go_wp2_with fail
      refine (IAB.out _ B13.out).mono ?_
      rintro e w14 ⟨rfl, hb⟩
      have B14 := Lib.hid (B13.out.trans (hb.mono B13.out.size))
      clear hb
      go_wp2_with fail
      refine (IBA.out _ B14.out).mono ?_
      rintro e w15 ⟨rfl, hb⟩
      have B15 := Lib.hid (B14.out.trans (hb.mono B14.out.size))
      clear hb
      go_wp2_with fail
      refine (IAN.out _ B15.out).mono ?_
      rintro e w16 ⟨rfl, hb⟩
      have B16 := Lib.hid (B15.out.trans (hb.mono B15.out.size))
      clear hb
      go_wp2_with fail
      refine (knownP_any _).mono ?_
      rintro e w' ⟨rfl, hb⟩
      go_wp2
      go_ret
      exact ⟨rfl, B16.out.trans (hb.mono B16.out.size)⟩
  · rw [decide_eq_false hab] at IAB
    clear hab
    by_cases n0 : n = 0
    · subst n0
      go_wp2_with fail
      refine (IAB.out _ B3.out).mono ?_
      rintro e w17 ⟨rfl, hb⟩
      have B17 := Lib.hid (B3.out.trans (hb.mono B3.out.size))
      clear hb
      go_wp2_with fail
      refine (IAA.out _ B17.out).mono ?_
      rintro e w18 ⟨rfl, hb⟩
      have B18 := Lib.hid (B17.out.trans (hb.mono B17.out.size))
      clear hb
      go_wp2_with fail
      refine (IAB.out _ B18.out).mono ?_
      rintro e w19 ⟨rfl, hb⟩
      have B19 := Lib.hid (B18.out.trans (hb.mono B18.out.size))
      clear hb
      go_wp2_with fail
      refine (knownP_any _).mono ?_
      rintro e w' ⟨rfl, hb⟩
      go_wp2
      go_ret
      exact ⟨rfl, B19.out.trans (hb.mono B19.out.size)⟩
    · have n1 : 0 < n := by omega
      have t4 : decide ((n : Int) = 0) = false := by simp; omega
      rw [decide_eq_true (Ins.root (by have := HL.out; omega))] at IAN
      clear n0
      go_wp2_with fail
      refine (IAB.out _ B3.out).mono ?_
      rintro e w20 ⟨rfl, hb⟩
      have B20 := Lib.hid (B3.out.trans (hb.mono B3.out.size))
      clear hb
      go_wp2_with fail
      refine (IAA.out _ B20.out).mono ?_
      rintro e w21 ⟨rfl, hb⟩
      have B21 := Lib.hid (B20.out.trans (hb.mono B20.out.size))
      clear hb
      go_wp2_with fail
      refine (IAB.out _ B21.out).mono ?_
      rintro e w22 ⟨rfl, hb⟩
      have B22 := Lib.hid (B21.out.trans (hb.mono B21.out.size))
      clear hb
      go_wp2_with fail
      refine (IAN.out _ B22.out).mono ?_
      rintro e w23 ⟨rfl, hb⟩
      have B23 := Lib.hid (B22.out.trans (hb.mono B22.out.size))
      clear hb
      go_wp2_with fail
      refine (knownP_any _).mono ?_
      rintro e w' ⟨rfl, hb⟩
      go_wp2
      go_ret
      exact ⟨rfl, B23.out.trans (hb.mono B23.out.size)⟩
end Go.Proofs.Ytoakgogngcmneaa
