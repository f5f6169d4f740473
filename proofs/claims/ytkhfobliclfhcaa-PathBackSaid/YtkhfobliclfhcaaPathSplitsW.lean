/-
  The statement on paths split and names joined.
-/
import Derived.Test.YtkhfobliclfhcaaPathJoin
import Derived.Test.YtkhfobliclfhcaaPathSplit
namespace Go.Proofs.Ytkhfobliclfhcaa
open Go.RowKit Go.ChangeShapes

set_option maxRecDepth 100000 in
theorem longP_any (p : ByteArray) (w : World) (_hp : p.size ≤ maxLen) : Calls Try.prog 6 #[.string p] w fun e w' => e = .returned (.bool (decide (2000 < p.size))) ∧ w = w' := by
  go_enter Try.func6, Try.ntmps6
  go_wp2
  go_ret
  exact ⟨sbool (by simp; omega), rfl⟩

set_option maxRecDepth 100000 in
set_option maxHeartbeats 3000000 in
theorem pathSplits_walk (p : ByteArray) (a : Option Addr) (n cn : Nat) (zs : List ByteArray) (b : Option Addr) (q cq : Nat) (ys : List ByteArray) (w : World)
    (hp : p.size ≤ maxLen) (ha : RowS w a n cn zs) (hb : RowS w b q cq ys) :
    Calls Try.prog 3 #[.string p, .slice a n cn, .slice b q cq] w fun e w' => e = .returned (.bool true) ∧ Below w.heap.size w w' := by
  obtain ⟨l, hl, hcn, RL⟩ := ha.rs
  obtain ⟨m, hm, hcq, RM⟩ := hb.rs
  have HLo := Lib.hid (fun W => longP_any p W hp)
  have S1 := Lib.hid (fun W (hB : Below w.heap.size w W) => size_few l a cn n W (RL.below hB) hl)
  have S2 := Lib.hid (fun W (hB : Below w.heap.size w W) => size_few m b cq q W (RM.below hB) hm)
  have J1 := Lib.hid (fun W (hB : Below w.heap.size w W) => join_any l a cn n W (RL.below hB) hl hcn)
  have J2 := Lib.hid (fun W (hB : Below w.heap.size w W) hf => refJoin_any l a cn n W (RL.below hB) hl hf)
  have I1 := Lib.hid (fun W (hB : Below w.heap.size w W) => inside_any l m a b cn cq n q W (RL.below hB) (RM.below hB) hl hm hcn)
  have I2 := Lib.hid (fun W (hB : Below w.heap.size w W) => refInside_any l m a b cn cq n q W (RL.below hB) (RM.below hB) hl hm)
  generalize decide (Ins l m) = ins at I1 I2
  generalize joinS l = js at J1 J2
  generalize joinE l = je at J1 J2
  have B0 := Lib.hid (Below.refl w.heap.size w)
  clear ha hb RL RM hl hm hcn hcq hp
  by_cases hlong : 2000 < p.size
  · rw [decide_eq_true hlong] at HLo
    clear hlong
    go_enter Try.func3, Try.ntmps3
    go_wp2_with fail
    refine (HLo.out _).mono ?_
    rintro e w' ⟨rfl, rfl⟩
    go_wp2_with fail
    refine (knownP_any _).mono ?_
    rintro e w' ⟨rfl, hb⟩
    go_wp2
    go_ret
    exact ⟨rfl, hb⟩
  rw [decide_eq_false hlong] at HLo
  clear hlong
  go_enter Try.func3, Try.ntmps3
  go_wp2_with fail
  refine (HLo.out _).mono ?_
  rintro e w' ⟨rfl, rfl⟩
  go_wp2_with fail
  refine (S1.out _ B0.out).mono ?_
  rintro e w1 ⟨⟨z1, rfl, hf1⟩, hb⟩
  have B1 := Lib.hid (B0.out.trans (hb.mono B0.out.size))
  clear hb
  by_cases hz1 : 900 < z1
  · have t1 : decide (900 < z1) = true := decide_eq_true hz1
    clear hz1 hf1
    go_wp2_with fail
    refine (knownP_any _).mono ?_
    rintro e w' ⟨rfl, hb⟩
    go_wp2
    go_ret
    exact ⟨rfl, B1.out.trans (hb.mono B1.out.size)⟩
  have t1 : decide (900 < z1) = false := decide_eq_false hz1
  have F1 := Lib.hid (hf1 (by omega))
  clear hz1 hf1
  go_wp2_with fail
  refine (S2.out _ B1.out).mono ?_
  rintro e w2 ⟨⟨z2, rfl, -⟩, hb⟩
  have B2 := Lib.hid (B1.out.trans (hb.mono B1.out.size))
  clear hb
  by_cases hz2 : 900 < z2
  · have t2 : decide (900 < z2) = true := decide_eq_true hz2
    clear hz2
    go_wp2_with fail
    refine (knownP_any _).mono ?_
    rintro e w' ⟨rfl, hb⟩
    go_wp2
    go_ret
    exact ⟨rfl, B2.out.trans (hb.mono B2.out.size)⟩
  have t2 : decide (900 < z2) = false := decide_eq_false hz2
  clear hz2
  go_wp2_with fail
  refine (split_any p _).mono ?_
  rintro r w3 ⟨hr1, hb⟩
  have B3 := Lib.hid (B2.out.trans (hb.mono B2.out.size))
  have HR1 := Lib.hid hr1
  obtain ⟨a1, k1, c1, x1, e1, rfl⟩ : ∃ a1 k1 c1 x1 e1, r = .returned (.tuple #[.slice a1 k1 c1, .string x1, .int .i64 e1]) := by
    rcases hr1 with ⟨_, l', x, _, a', k', c', h, _⟩ | ⟨_, _, h⟩ | ⟨_, h⟩
    · exact ⟨_, _, _, _, _, h⟩
    · exact ⟨_, _, _, _, _, h⟩
    · exact ⟨_, _, _, _, _, h⟩
  clear hb hr1
  go_wp2_with fail
  refine (refSplit_any p _).mono ?_
  rintro r w4 ⟨hr2, hb⟩
  have B4 := Lib.hid (B3.out.trans (hb.mono B3.out.size))
  obtain ⟨a2, k2, c2, rfl, hs⟩ : ∃ a2 k2 c2, r = .returned (.tuple #[.slice a2 k2 c2, .string x1, .int .i64 e1]) ∧ ∀ W, Below w4.heap.size w4 W → Calls Try.prog 13 #[.slice a1 k1 c1, .slice a2 k2 c2] W fun e w' => e = .returned (.bool true) ∧ Below W.heap.size W w' := by
    rcases HR1.out with ⟨h0, l1, y1, hp1, a', k', c', h, hrs, hlen⟩ | ⟨h0, hp1, h⟩ | ⟨h0, h⟩
    · rcases hr2 with ⟨g0, l2, y2, hp2, a2, k2, c2, g, hrs2, hlen2⟩ | ⟨g0, hp2, g⟩ | ⟨g0, g⟩
      · obtain ⟨e1, e2⟩ := List.append_inj' (hp1.symm.trans hp2) rfl
        simp only [List.cons.injEq, and_true] at e2
        subst e1 e2
        simp only [Ending.returned.injEq, Value.tuple.injEq, Array.mk.injEq, List.cons.injEq, Value.slice.injEq, Value.string.injEq, Value.int.injEq, and_true, true_and] at h
        obtain ⟨⟨rfl, rfl, rfl⟩, rfl, rfl⟩ := h
        refine ⟨_, _, _, g, fun W hW => ?_⟩
        have := sameS_any l1 l1 a1 a2 c1 c2 k1 k2 W ((hrs.below hb).below hW) (hrs2.below hW) hlen hlen2
        rw [decide_eq_true rfl] at this
        exact this
      · rw [hp2] at hp1; simp at hp1
      · exact absurd h0 g0
    · simp only [Ending.returned.injEq, Value.tuple.injEq, Array.mk.injEq, List.cons.injEq, Value.slice.injEq, Value.string.injEq, Value.int.injEq, and_true, true_and] at h
      obtain ⟨⟨rfl, rfl, rfl⟩, rfl, rfl⟩ := h
      rcases hr2 with ⟨g0, l2, y2, hp2, a2, k2, c2, g, hrs2, hlen2⟩ | ⟨g0, hp2, g⟩ | ⟨g0, g⟩
      · rw [hp1] at hp2; simp at hp2
      · refine ⟨_, _, _, g, fun W hW => ?_⟩
        have := sameS_any [] [] none none 0 0 0 0 W Rs.nil Rs.nil rfl rfl
        rw [decide_eq_true rfl] at this
        exact this
      · exact absurd h0 g0
    · simp only [Ending.returned.injEq, Value.tuple.injEq, Array.mk.injEq, List.cons.injEq, Value.slice.injEq, Value.string.injEq, Value.int.injEq, and_true, true_and] at h
      obtain ⟨⟨rfl, rfl, rfl⟩, rfl, rfl⟩ := h
      rcases hr2 with ⟨g0, l2, y2, hp2, a2, k2, c2, g, hrs2, hlen2⟩ | ⟨g0, hp2, g⟩ | ⟨g0, g⟩
      · exact absurd g0 h0
      · exact absurd g0 h0
      · refine ⟨_, _, _, g, fun W hW => ?_⟩
        have := sameS_any [] [] none none 0 0 0 0 W Rs.nil Rs.nil rfl rfl
        rw [decide_eq_true rfl] at this
        exact this
  have HS := Lib.hid hs
  clear hr2 HR1 hs hb
  go_wp2_with fail
  refine (J1.out _ B4.out).mono ?_
  rintro e w5 ⟨rfl, hb⟩
  have B5 := Lib.hid (B4.out.trans (hb.mono B4.out.size))
  have HS5 := Lib.hid (HS.out _ hb)
  clear hb
  go_wp2_with fail
  refine (J2.out _ B5.out F1.out).mono ?_
  rintro e w' ⟨rfl, rfl⟩
  go_wp2_with fail
  refine HS5.out.mono ?_
  rintro e w6 ⟨rfl, hb⟩
  have B6 := Lib.hid (B5.out.trans (hb.mono B5.out.size))
  have t3 := str_eq (x := x1) rfl
  have t4 := str_eq (x := js) rfl
  clear hb
  go_wp2_with fail
  refine (I1.out _ B6.out).mono ?_
  rintro e w7 ⟨rfl, hb⟩
  have B7 := Lib.hid (B6.out.trans (hb.mono B6.out.size))
  clear hb
  go_wp2_with fail
  refine (I2.out _ B7.out).mono ?_
  rintro e w8 ⟨rfl, hb⟩
  have B8 := Lib.hid (B7.out.trans (hb.mono B7.out.size))
  clear hb
  go_wp2_with fail
  refine (knownP_any _).mono ?_
  rintro e w' ⟨rfl, hb⟩
  go_wp2
  go_ret
  exact ⟨rfl, B8.out.trans (hb.mono B8.out.size)⟩
end Go.Proofs.Ytkhfobliclfhcaa
