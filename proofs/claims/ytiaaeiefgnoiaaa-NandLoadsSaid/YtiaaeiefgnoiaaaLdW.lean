/-
  The law NandLoads. Nothing of one statement alone stands here but it.
-/
import Derived.Test.YtiaaeiefgnoiaaaLdGo
import Derived.Test.YtiaaeiefgnoiaaaLdDump
import Derived.Test.YtiaaeiefgnoiaaaLdSame
import Derived.Test.YtiaaeiefgnoiaaaLdPlays
import Derived.Test.YtiaaeiefgnoiaaaNandKnown
namespace Go.Proofs.Ytiaaeiefgnoiaaa
open Go.RowKit Crcm Tagm Go.ChangeShapes

set_option maxRecDepth 100000 in
set_option maxHeartbeats 1000000 in
theorem gload_no {x y z : Int} (h : ¬ GdI x y z) (w : World) (a1 a2 a3 : Option Addr) (n1 c1 n2 c2 n3 c3 : Nat) :
    Calls Try.prog 9 #[geoV x y z, .slice a1 n1 c1, .slice a2 n2 c2, .slice a3 n3 c3] w fun e w' => e = .returned (.tuple #[.pointer none, .int .i64 1]) ∧ Below w.heap.size w w' := by
  have HL : Hid (∀ W, Calls Try.prog 32 #[geoV x y z, .slice a1 n1 c1, .slice a2 n2 c2, .slice a3 n3 c3] W fun e w' => e = .returned (.bool false) ∧ Below W.heap.size W w') := Lib.hid (fun W => by
    have HR := Lib.hid (fun W => gright_no h W)
    unfold geoV at HR ⊢
    clear h
    go_enter Try.func32, Try.ntmps32
    go_wp2_with fail
    refine (HR.out _).mono ?_
    rintro r w1 ⟨rfl, hb⟩
    have HB1 := Lib.hid (((Below.refl W.heap.size W).alloc (Nat.le_refl _) (.cells #[.int .i64 x, .int .i64 y, .int .i64 z] 23)).trans (hb.mono (by simp)))
    clear hb
    go_wp2
    go_ret
    exact ⟨rfl, HB1.out⟩)
  unfold geoV at HL ⊢
  clear h
  go_enter Try.func9, Try.ntmps9
  go_wp2_with fail
  refine (HL.out _).mono ?_
  rintro r w1 ⟨rfl, hb⟩
  have HB1 := Lib.hid (((Below.refl w.heap.size w).alloc (Nat.le_refl _) (.cells #[.int .i64 x, .int .i64 y, .int .i64 z] 23)).trans (hb.mono (by simp)))
  clear hb
  go_wp2
  go_ret2
  exact ⟨rfl, HB1.out⟩
set_option maxRecDepth 100000 in
set_option maxHeartbeats 1000000 in
theorem rxload_no {x y z : Int} (h : ¬ GdI x y z) (w : World) (a1 a2 a3 : Option Addr) (n1 c1 n2 c2 n3 c3 : Nat) :
    Calls Try.prog 10 #[geoV x y z, .slice a1 n1 c1, .slice a2 n2 c2, .slice a3 n3 c3] w fun e w' => e = .returned (.tuple #[.pointer none, .int .i64 1]) ∧ Below w.heap.size w w' := by
  have HR := Lib.hid (fun W => rright_no h W)
  unfold geoV at HR ⊢
  clear h
  go_enter Try.func10, Try.ntmps10
  go_wp2_with fail
  refine (HR.out _).mono ?_
  rintro r w1 ⟨rfl, hb⟩
  have HB1 := Lib.hid (((Below.refl w.heap.size w).alloc (Nat.le_refl _) (.cells #[.int .i64 x, .int .i64 y, .int .i64 z] 23)).trans (hb.mono (by simp)))
  clear hb
  go_wp2
  go_ret2
  exact ⟨rfl, HB1.out⟩
/-- one operation in a block of its own -/
theorem Ro.oneL {w w' : World} {g : Nat} {y : Oz} {v3 v4 : Value} (h : Blk w' g 30 #[.int .i64 y.kind, .int .i64 y.block, .int .i64 y.page, v3, v4]) (hw : OzW y) (h3 : BsV w v3 y.b) (h4 : FsV w v4 y.fl) (hb : Below w.heap.size w w') : Ro w' (some ⟨g, 0, none⟩) [y] := by
  refine ⟨by unfold maxLen; simp, by simpa using hw, .inr ⟨g, 0, rfl, fun j hj => ?_⟩⟩
  have hj0 : j = 0 := by simpa using hj
  subst hj0
  refine ⟨h.cell 0, h.cell 1, h.cell 2, ⟨v3, h.cell 3, ?_⟩, ⟨v4, h.cell 4, ?_⟩⟩
  · obtain ⟨A, c, e, h1, h2, h3'⟩ := h3
    exact ⟨A, c, e, h1, h2, h3'.below hb⟩
  · obtain ⟨A, c, e, h1, h2, h3', h5⟩ := h4
    exact ⟨A, c, e, h1, h2, h3'.kp (F := fun _ => False) (Kp.of_below hb) (fun _ g => g.elim), h5⟩
theorem FlAt.outXL {w : World} {X : Nat → Prop} {v : Value} {fl : List Fl} (h : FlAt w (fun _ => False) v fl) (hX : ∀ b, X b → w.heap.size ≤ b) : FlAt w X v fl :=
  h.widen (Below.refl _ _) (fun b hb => .inr (hX b hb))

set_option maxRecDepth 100000 in
set_option maxHeartbeats 8000000 in
theorem nandLoads_core (x y z : Int) (a1 : Option Addr) (n1 c1 : Nat) (ls : List (List Int)) (a2 : Option Addr) (n2 c2 : Nat) (bs : List Bool) (a3 : Option Addr) (n3 c3 : Nat) (ws : List Int) (yo : Oz) (v3 v4 : Value) (w : World)
    (h1 : Rl w a1 ls) (l1 : ls.length = n1) (k1 : n1 ≤ c1) (m1 : c1 ≤ maxLen) (h2 : Rbo w a2 bs) (l2 : bs.length = n2) (m2 : n2 ≤ maxLen) (h3 : Ri w a3 ws) (l3 : ws.length = n3) (hyw : OzW yo) (hys : SzO yo) (hv3 : BsV w v3 yo.b) (hv4 : FsV w v4 yo.fl) :
    Calls Try.prog 3 #[geoV x y z, .slice a1 n1 c1, .slice a2 n2 c2, .slice a3 n3 c3, .agg #[.int .i64 yo.kind, .int .i64 yo.block, .int .i64 yo.page, v3, v4]] w fun e w' => e = .returned (.bool true) ∧ Below w.heap.size w w' := by
  have HWd : Hid (∀ W, Calls Try.prog 6 #[geoV x y z] W fun e w' => (e = .returned (.bool false) ∨ e = .returned (.bool true)) ∧ Below W.heap.size W w') := Lib.hid (fun W => by
    by_cases hG : GdI x y z
    · exact wide_yes hG W
    · refine (wide_no hG W).mono ?_
      rintro e w' ⟨he, hb⟩
      exact ⟨.inl he, hb⟩)
  have HLong := Lib.hid (fun w' g (hb : Below w.heap.size w w') (hk : Blk w' g 30 #[.int .i64 yo.kind, .int .i64 yo.block, .int .i64 yo.page, v3, v4]) => long_few (some ⟨g, 0, none⟩) 1 1 [yo] w' (Ro.oneL hk hyw hv3 hv4 hb) rfl (by simpa using hys))
  have HKn := Lib.hid (fun W => knownN_any W)
  have n19 : n1 ≤ 9223372036854775807 := by unfold maxLen at m1; omega
  have n29 : n2 ≤ 9223372036854775807 := by unfold maxLen at m2; omega
  have n39 : n3 ≤ 9223372036854775807 := by have := h3.1; unfold maxLen at this; omega
  obtain ⟨A3, c3', rfl, -, -, hr3⟩ := hv3
  obtain ⟨A4, c4', rfl, -, -, hf4, -⟩ := hv4
  have H1 := Lib.hid h1
  have H2 := Lib.hid h2
  have H3 := Lib.hid h3
  have L1 := Lib.hid l1
  have L2 := Lib.hid l2
  have L3 := Lib.hid l3
  have K1 := Lib.hid k1
  have HR3 := Lib.hid hr3
  have HF4 := Lib.hid hf4
  have hb1 := ((Below.refl w.heap.size w).alloc (Nat.le_refl _) (.cells #[.int .i64 x, .int .i64 y, .int .i64 z] 23)).alloc (by simp) (.cells #[.int .i64 yo.kind, .int .i64 yo.block, .int .i64 yo.page, .slice A3 yo.b.length c3', .slice A4 yo.fl.length c4'] 30)
  have HG0 := Lib.hid ((Blk.new w 23 #[.int .i64 x, .int .i64 y, .int .i64 z]).alloc (.cells #[.int .i64 yo.kind, .int .i64 yo.block, .int .i64 yo.page, .slice A3 yo.b.length c3', .slice A4 yo.fl.length c4'] 30))
  have HP0 : Hid (Blk ((w.alloc (.cells #[.int .i64 x, .int .i64 y, .int .i64 z] 23)).alloc (.cells #[.int .i64 yo.kind, .int .i64 yo.block, .int .i64 yo.page, .slice A3 yo.b.length c3', .slice A4 yo.fl.length c4'] 30)) (w.heap.size + 1) 30 #[.int .i64 yo.kind, .int .i64 yo.block, .int .i64 yo.page, .slice A3 yo.b.length c3', .slice A4 yo.fl.length c4']) := Lib.hid (by
    have := Blk.new (w.alloc (.cells #[.int .i64 x, .int .i64 y, .int .i64 z] 23)) 30 #[.int .i64 yo.kind, .int .i64 yo.block, .int .i64 yo.page, .slice A3 yo.b.length c3', .slice A4 yo.fl.length c4']
    simpa using this)
  have HB0 := Lib.hid hb1
  obtain ⟨m3, h3e⟩ : ∃ n, yo.b.length = n := ⟨_, rfl⟩
  obtain ⟨m4, h4e⟩ : ∃ n, yo.fl.length = n := ⟨_, rfl⟩
  have HE3 := Lib.hid h3e
  have HE4 := Lib.hid h4e
  rw [h3e, h4e] at HLong HB0 HG0 HP0 ⊢
  rw [h4e] at HF4
  unfold geoV at HWd ⊢
  clear h1 h2 h3 l1 l2 l3 k1 m1 m2 hyw hys hr3 hf4 hb1 h3e h4e
  go_enter Try.func3, Try.ntmps3
  go_upto_region 1 with (fail)
  generalize ((w.alloc (.cells #[.int .i64 x, .int .i64 y, .int .i64 z] 23)).alloc (.cells #[.int .i64 yo.kind, .int .i64 yo.block, .int .i64 yo.page, .slice A3 m3 c3', .slice A4 m4 c4'] 30)) = W at HB0 HG0 HP0 ⊢
  obtain ⟨gb, hgb⟩ : ∃ gb, w.heap.size = gb := ⟨_, rfl⟩
  have HGb := Lib.hid hgb
  rw [hgb] at HG0 HP0 ⊢
  clear hgb
  have q0 : W.cell? ⟨gb, 0, none⟩ = some (.int .i64 x) := HG0.out.cell 0
  have q1 : W.cell? ⟨gb, 1, none⟩ = some (.int .i64 y) := HG0.out.cell 1
  have q2 : W.cell? ⟨gb, 2, none⟩ = some (.int .i64 z) := HG0.out.cell 2
  go_wp2_with fail
  refine (HWd.out _).mono ?_
  rintro e w1 ⟨he, hb⟩
  have HB1 := Lib.hid (HB0.out.trans (hb.mono HB0.out.size))
  have HG1 := Lib.hid (HG0.out.below hb HG0.out.lt)
  have HP1 := Lib.hid (HP0.out.below hb HP0.out.lt)
  clear hb q0 q1 q2 HG0 HP0 HB0 HWd
  have p0 : w1.cell? ⟨gb + 1, 0, none⟩ = some (.int .i64 yo.kind) := HP1.out.cell 0
  have p1 : w1.cell? ⟨gb + 1, 1, none⟩ = some (.int .i64 yo.block) := HP1.out.cell 1
  have p2 : w1.cell? ⟨gb + 1, 2, none⟩ = some (.int .i64 yo.page) := HP1.out.cell 2
  have p3 : w1.cell? ⟨gb + 1, 3, none⟩ = some (.slice A3 m3 c3') := HP1.out.cell 3
  have p4 : w1.cell? ⟨gb + 1, 4, none⟩ = some (.slice A4 m4 c4') := HP1.out.cell 4
  rcases he with rfl | rfl
  case inr =>
    go_wp2_with fail
    refine (HKn.out _).mono ?_
    rintro e w' ⟨rfl, hb9⟩
    have HB9 := Lib.hid (HB1.out.trans (hb9.mono HB1.out.size))
    clear hb9
    go_wp2
    go_ret
    exact ⟨rfl, HB9.out⟩
  by_cases e1 : 200 < n1
  · have t1 : decide ((200 : Int) < (n1 : Int)) = true := decide_eq_true (by omega)
    clear e1
    go_wp2_with fail
    refine (HKn.out _).mono ?_
    rintro e w' ⟨rfl, hb9⟩
    have HB9 := Lib.hid (HB1.out.trans (hb9.mono HB1.out.size))
    clear hb9
    go_wp2
    go_ret
    exact ⟨rfl, HB9.out⟩
  have t1 : decide ((200 : Int) < (n1 : Int)) = false := decide_eq_false (by omega)
  by_cases e2 : 200 < n2
  · have t2 : decide ((200 : Int) < (n2 : Int)) = true := decide_eq_true (by omega)
    clear e1 e2
    go_wp2_with fail
    refine (HKn.out _).mono ?_
    rintro e w' ⟨rfl, hb9⟩
    have HB9 := Lib.hid (HB1.out.trans (hb9.mono HB1.out.size))
    clear hb9
    go_wp2
    go_ret
    exact ⟨rfl, HB9.out⟩
  have t2 : decide ((200 : Int) < (n2 : Int)) = false := decide_eq_false (by omega)
  by_cases e3 : 200 < n3
  · have t3 : decide ((200 : Int) < (n3 : Int)) = true := decide_eq_true (by omega)
    clear e1 e2 e3
    go_wp2_with fail
    refine (HKn.out _).mono ?_
    rintro e w' ⟨rfl, hb9⟩
    have HB9 := Lib.hid (HB1.out.trans (hb9.mono HB1.out.size))
    clear hb9
    go_wp2
    go_ret
    exact ⟨rfl, HB9.out⟩
  have t3 : decide ((200 : Int) < (n3 : Int)) = false := decide_eq_false (by omega)
  have hal := (Below.refl w1.heap.size w1).alloc (Nat.le_refl _) (.cells #[.int .i64 yo.kind, .int .i64 yo.block, .int .i64 yo.page, .slice A3 m3 c3', .slice A4 m4 c4'] 30)
  have HL := Lib.hid (HLong.out _ w1.heap.size (HB1.out.trans (hal.mono HB1.out.size)) (Blk.new w1 30 #[.int .i64 yo.kind, .int .i64 yo.block, .int .i64 yo.page, .slice A3 m3 c3', .slice A4 m4 c4']))
  have HG2 := Lib.hid (HG1.out.below hal HG1.out.lt)
  have HB2 := Lib.hid (HB1.out.trans (hal.mono HB1.out.size))
  have HP2 := Lib.hid (HP1.out.below hal HP1.out.lt)
  clear hal HLong
  go_wp2_with fail
  refine HL.out.mono ?_
  rintro e w' ⟨he, rfl⟩
  clear HL p0 p1 p2 p3 p4 HG1 HB1 HP1 t1 t2 t3
  generalize (w1.alloc (.cells #[.int .i64 yo.kind, .int .i64 yo.block, .int .i64 yo.page, .slice A3 m3 c3', .slice A4 m4 c4'] 30)) = w2 at HG2 HB2 HP2 ⊢
  rcases he with ⟨rfl, hsm⟩ | rfl
  case inr =>
    go_wp2_with fail
    refine (HKn.out _).mono ?_
    rintro e w' ⟨rfl, hb9⟩
    have HB9 := Lib.hid (HB2.out.trans (hb9.mono HB2.out.size))
    clear hb9
    go_wp2
    go_ret
    exact ⟨rfl, HB9.out⟩
  have HSm := Lib.hid (hsm yo (by simp))
  clear hsm
  go_wp2_with fail
  go_loopw [11] (fun i wr => ∃ k : Nat, k ≤ n1 ∧ i = .int .i64 k ∧ wr = w2 ∧ Hid (∀ j, j < k → ls[j]!.length ≤ 600)) (fun i _ => n1 - (intOf i).toNat)
  case atStart => exact ⟨0, Nat.zero_le _, rfl, rfl, Lib.hid (fun j h => by omega)⟩
  case round =>
    obtain ⟨k, hk, rfl, rfl, hA⟩ := hrel
    by_cases hlt : k < n1
    · have kl : (k : Int) < (n1 : Int) := by omega
      have k0 : (0 : Int) ≤ (k : Int) := by omega
      have hkl : k < ls.length := by rw [L1.out]; exact hlt
      obtain ⟨b, off, A, cc, rfl, hc, -, -⟩ := (H1.out.below HB2.out).at hkl
      have HYes : Hid (ls[k]!.length ≤ 600 → ∀ j, j < k + 1 → ls[j]!.length ≤ 600) := Lib.hid (fun h j hj => by
        by_cases e : j = k
        · subst e; exact h
        · exact hA.out j (by omega))
      obtain ⟨m, hm⟩ : ∃ m, ls[k]!.length = m := ⟨_, rfl⟩
      rw [hm] at hc HYes
      clear hkl hm hA
      by_cases m0 : 600 < m
      · have u0 : decide ((600 : Int) < (m : Int)) = true := decide_eq_true (by omega)
        clear m0
        go_wp2_with fail
        refine (HKn.out _).mono ?_
        rintro e w' ⟨rfl, hb9⟩
        have HB9 := Lib.hid (HB2.out.trans (hb9.mono HB2.out.size))
        clear hb9
        go_wp2
        go_ret
        exact ⟨rfl, HB9.out⟩
      · have u0 : decide ((600 : Int) < (m : Int)) = false := decide_eq_false (by omega)
        have HY := Lib.hid (HYes.out (by omega))
        clear m0
        go_wp2_with fail
        go_roundw
        case rel => exact ⟨k + 1, by omega, by go_num, trivial, HY⟩
        case measure => simp [intOf]; omega
    · have kl : ¬ (k : Int) < (n1 : Int) := by omega
      have HAll : Hid (∀ l ∈ ls, l.length ≤ 100000) := Lib.hid (fun l hl => by
        obtain ⟨j, hj, rfl⟩ := List.getElem_of_mem hl
        have := hA.out j (by have := L1.out; omega)
        rw [getElem!_pos ls j hj] at this
        omega)
      clear hA hlt hk
      by_cases hG : GdI x y z
      case neg =>
        have HN1 := Lib.hid (fun W => gload_no hG W a1 a2 a3 n1 c1 n2 c2 n3 c3)
        have HN2 := Lib.hid (fun W => rxload_no hG W a1 a2 a3 n1 c1 n2 c2 n3 c3)
        unfold geoV at HN1 HN2
        have q0 : wr.cell? ⟨gb, 0, none⟩ = some (.int .i64 x) := HG2.out.cell 0
        have q1 : wr.cell? ⟨gb, 1, none⟩ = some (.int .i64 y) := HG2.out.cell 1
        have q2 : wr.cell? ⟨gb, 2, none⟩ = some (.int .i64 z) := HG2.out.cell 2
        clear hG
        go_wp2_with fail
        refine (HN1.out _).mono ?_
        rintro e w3 ⟨rfl, hb3⟩
        have HB3 := Lib.hid (HB2.out.trans (hb3.mono HB2.out.size))
        have HG3 := Lib.hid (HG2.out.below hb3 HG2.out.lt)
        clear q0 q1 q2 hb3
        have q0 : w3.cell? ⟨gb, 0, none⟩ = some (.int .i64 x) := HG3.out.cell 0
        have q1 : w3.cell? ⟨gb, 1, none⟩ = some (.int .i64 y) := HG3.out.cell 1
        have q2 : w3.cell? ⟨gb, 2, none⟩ = some (.int .i64 z) := HG3.out.cell 2
        go_wp2_with fail
        refine (HN2.out _).mono ?_
        rintro e w4 ⟨rfl, hb4⟩
        have HB4 := Lib.hid (HB3.out.trans (hb4.mono HB3.out.size))
        clear q0 q1 q2 hb4
        go_wp2_with fail
        refine (HKn.out _).mono ?_
        rintro e w' ⟨rfl, hb9⟩
        have HB9 := Lib.hid (HB4.out.trans (hb9.mono HB4.out.size))
        clear hb9
        go_wp2
        go_ret
        exact ⟨rfl, HB9.out⟩
      obtain ⟨nb, rfl⟩ : ∃ n : Nat, x = n := ⟨x.toNat, by unfold GdI at hG; omega⟩
      obtain ⟨np, rfl⟩ : ∃ n : Nat, y = n := ⟨y.toNat, by unfold GdI at hG; omega⟩
      obtain ⟨sz, rfl⟩ : ∃ n : Nat, z = n := ⟨z.toNat, by unfold GdI at hG; omega⟩
      have hg : Gd nb np sz := by unfold GdI at hG; unfold Gd; omega
      have HGd := Lib.hid hg
      have hgl := gload_any nb np sz wr hg a1 n1 c1 ls (H1.out.below HB2.out) L1.out (by omega) K1.out HAll.out a2 n2 c2 bs (H2.out.below HB2.out) L2.out (by omega) a3 n3 c3 ws (H3.out.below HB2.out) L3.out (by omega)
      have HRL := Lib.hid (fun (X : Nat → Prop) (W : World) (hX : ∀ b, X b → w.heap.size ≤ b ∧ b < W.heap.size) (hb : Below w.heap.size w W) => rxload_any nb np sz w W hg X hX hb a1 n1 c1 ls H1.out L1.out (by omega) a2 n2 c2 bs H2.out L2.out (by omega) a3 n3 c3 ws H3.out L3.out (by omega))
      have HGL2 := Lib.hid (fun (W : World) (b1 cc1 b2 cc2 b3 cc3 : Nat) (h1 : Rl W (some ⟨b1, 0, none⟩) ls) (k1 : n1 ≤ cc1) (h2 : Rbo W (some ⟨b2, 0, none⟩) bs) (h3 : Ri W (some ⟨b3, 0, none⟩) ws) => gload_any nb np sz W hg (some ⟨b1, 0, none⟩) n1 cc1 ls h1 L1.out (by omega) k1 HAll.out (some ⟨b2, 0, none⟩) n2 cc2 bs h2 L2.out (by omega) (some ⟨b3, 0, none⟩) n3 cc3 ws h3 L3.out (by omega))
      have HGL := Lib.hid hgl
      unfold geoV at HGL HRL HGL2
      have q0 : wr.cell? ⟨gb, 0, none⟩ = some (.int .i64 nb) := HG2.out.cell 0
      have q1 : wr.cell? ⟨gb, 1, none⟩ = some (.int .i64 np) := HG2.out.cell 1
      have q2 : wr.cell? ⟨gb, 2, none⟩ = some (.int .i64 sz) := HG2.out.cell 2
      clear hG hg hgl
      go_wp2_with fail
      refine HGL.out.mono ?_
      rintro e w3 ⟨hcase, hb3⟩
      have HB3 := Lib.hid (HB2.out.trans (hb3.mono HB2.out.size))
      have HG3 := Lib.hid (HG2.out.below hb3 HG2.out.lt)
      have HP3 := Lib.hid (HP2.out.below hb3 HP2.out.lt)
      clear q0 q1 q2 hb3 HGL
      have q0 : w3.cell? ⟨gb, 0, none⟩ = some (.int .i64 nb) := HG3.out.cell 0
      have q1 : w3.cell? ⟨gb, 1, none⟩ = some (.int .i64 np) := HG3.out.cell 1
      have q2 : w3.cell? ⟨gb, 2, none⟩ = some (.int .i64 sz) := HG3.out.cell 2
      rcases hcase with ⟨hok, o, rfl, hch, hof⟩ | ⟨hno, rfl⟩
      case inr =>
        have HNo := Lib.hid hno
        have HR0 := Lib.hid (HRL.out (fun _ => False) w3 (fun _ h => h.elim) HB3.out)
        clear hno HRL
        go_wp2_with fail
        refine HR0.out.mono ?_
        rintro e w4 ⟨hcase, hb4⟩
        have HB4 := Lib.hid (HB3.out.trans (hb4.mono HB3.out.size))
        clear q0 q1 q2 hb4 HR0
        rcases hcase with ⟨hok, -⟩ | ⟨-, rfl⟩
        · exact absurd hok HNo.out
        go_wp2_with fail
        refine (HKn.out _).mono ?_
        rintro e w' ⟨rfl, hb9⟩
        have HB9 := Lib.hid (HB4.out.trans (hb9.mono HB4.out.size))
        clear hb9
        go_wp2
        go_ret
        exact ⟨rfl, HB9.out⟩
      have HOk := Lib.hid hok
      have hold : ∀ b, o.F nb b → b < w3.heap.size := hch.old
      have HR0 := Lib.hid (HRL.out (o.F nb) w3 (fun b hb => ⟨Nat.le_trans HB2.out.size (hof b hb), hold b hb⟩) HB3.out)
      have HCh := Lib.hid hch
      have HOf := Lib.hid (fun b (hb : o.F nb b) => Nat.le_trans HB2.out.size (hof b hb))
      have HOl := Lib.hid hold
      have hop : o.p = .pointer (some ⟨o.bc, 0, none⟩) := rfl
      rw [hop]
      clear hok hch hof hold HRL hop
      go_wp2_with fail
      refine HR0.out.mono ?_
      rintro e w4 ⟨hcase, hb4⟩
      rcases hcase with ⟨-, ro, rfl, hrx, hrof⟩ | ⟨hno, -⟩
      case inr => exact absurd HOk.out hno
      have HB4 := Lib.hid (HB3.out.trans (hb4.mono HB3.out.size))
      have HG4 := Lib.hid (HG3.out.below hb4 HG3.out.lt)
      have HP4 := Lib.hid (HP3.out.below hb4 HP3.out.lt)
      have HDis : Hid (∀ b, o.F nb b → ¬ ro.F b) := Lib.hid (fun b h1 h2 => by have := HOl.out b h1; have := hrof b h2; omega)
      have HX : Hid (∀ b, o.F nb b ∨ ro.F b → w.heap.size ≤ b) := Lib.hid (fun b hb => hb.elim (HOf.out b) (fun h => Nat.le_trans HB3.out.size (hrof b h)))
      have HC4 : Hid (ChAt w4 (fun b => o.F nb b ∨ ro.F b) o (ldC nb np sz ls bs ws)) := Lib.hid (HCh.out.widen hb4 (fun b h => h.elim .inl (fun h => .inr (hrof b h))) hrx.old (fun b h => .inl h))
      have HRx := Lib.hid hrx
      have HLk := Lib.hid (ld_lk HGd.out ls bs ws)
      have HSa := Lib.hid (lsame_any HC4.out HRx.out HLk.out.s)
      have hop : o.p = .pointer (some ⟨o.bc, 0, none⟩) := rfl
      rw [hop] at HSa
      clear q0 q1 q2 hb4 hrx hrof HR0 HCh HB3 HG3 HP3 hop
      go_wp2_with fail
      refine HSa.out.mono ?_
      rintro e w5 ⟨rfl, hb5⟩
      have HB5 := Lib.hid (HB4.out.trans (hb5.mono HB4.out.size))
      have HG5 := Lib.hid (HG4.out.below hb5 HG4.out.lt)
      have HP5 := Lib.hid (HP4.out.below hb5 HP4.out.lt)
      have HC5 := Lib.hid (HC4.out.below hb5)
      have HR5 := Lib.hid (HRx.out.below hb5)
      have HDp := Lib.hid (ld_dump HC5.out HOk.out n1 n2 n3 L1.out L2.out L3.out)
      have hop : o.p = .pointer (some ⟨o.bc, 0, none⟩) := rfl
      rw [hop] at HDp
      clear hb5 HSa HC4 HRx HB4 HG4 HP4 hop
      go_wp2_with fail
      refine HDp.out.mono ?_
      rintro e w6 ⟨⟨gp, cp, gq, cq, gw, cw, rfl, hcp, hrl, hrb, hri⟩, hb6⟩
      have HB6 := Lib.hid (HB5.out.trans (hb6.mono HB5.out.size))
      have HG6 := Lib.hid (HG5.out.below hb6 HG5.out.lt)
      have HP6 := Lib.hid (HP5.out.below hb6 HP5.out.lt)
      have HC6 := Lib.hid (HC5.out.below hb6)
      have HR6 := Lib.hid (HR5.out.below hb6)
      have HL6 := Lib.hid (HGL2.out w6 gp cp gq cq gw cw hrl hcp hrb hri)
      clear hb6 HDp HC5 HR5 HB5 HG5 HP5 hcp hrl hrb hri HGL2
      have q0 : w6.cell? ⟨gb, 0, none⟩ = some (.int .i64 nb) := HG6.out.cell 0
      have q1 : w6.cell? ⟨gb, 1, none⟩ = some (.int .i64 np) := HG6.out.cell 1
      have q2 : w6.cell? ⟨gb, 2, none⟩ = some (.int .i64 sz) := HG6.out.cell 2
      go_wp2_with fail
      refine HL6.out.mono ?_
      rintro e w7 ⟨hcase, hb7⟩
      rcases hcase with ⟨-, od, rfl, hcd, -⟩ | ⟨hno, -⟩
      case inr => exact absurd HOk.out hno
      have HB7 := Lib.hid (HB6.out.trans (hb7.mono HB6.out.size))
      have HP7 := Lib.hid (HP6.out.below hb7 HP6.out.lt)
      have HC7 := Lib.hid (HC6.out.below hb7)
      have HR7 := Lib.hid (HR6.out.below hb7)
      have HSa := Lib.hid (lsame_any hcd HR7.out HLk.out.s)
      have hop : od.p = .pointer (some ⟨od.bc, 0, none⟩) := rfl
      rw [hop] at HSa
      rw [hop]
      clear q0 q1 q2 hb7 hcd HL6 HC6 HR6 HB6 HG6 HP6 hop
      go_wp2_with fail
      refine HSa.out.mono ?_
      rintro e w8 ⟨rfl, hb8⟩
      have HB8 := Lib.hid (HB7.out.trans (hb8.mono HB7.out.size))
      have HP8 := Lib.hid (HP7.out.below hb8 HP7.out.lt)
      have HC8 := Lib.hid (HC7.out.below hb8)
      have HR8 := Lib.hid (HR7.out.below hb8)
      clear hb8 HSa HC7 HR7 HB7 HP7
      have p0 : w8.cell? ⟨gb + 1, 0, none⟩ = some (.int .i64 yo.kind) := HP8.out.cell 0
      have p1 : w8.cell? ⟨gb + 1, 1, none⟩ = some (.int .i64 yo.block) := HP8.out.cell 1
      have p2 : w8.cell? ⟨gb + 1, 2, none⟩ = some (.int .i64 yo.page) := HP8.out.cell 2
      have p3 : w8.cell? ⟨gb + 1, 3, none⟩ = some (.slice A3 m3 c3') := HP8.out.cell 3
      have p4 : w8.cell? ⟨gb + 1, 4, none⟩ = some (.slice A4 m4 c4') := HP8.out.cell 4
      have HPl := Lib.hid (playsx_any HC8.out HR8.out HDis.out HLk.out yo A3 m3 c3' A4 m4 c4' ((HR3.out.outXL HX.out).kp (F := fun _ => False) (Kp.of_below HB8.out) (fun _ g => g.elim)) HE3.out ((HF4.out.outXL HX.out).kp (F := fun _ => False) (Kp.of_below HB8.out) (fun _ g => g.elim)) HE4.out HSm.out)
      have hop : o.p = .pointer (some ⟨o.bc, 0, none⟩) := rfl
      rw [hop] at HPl
      clear hop
      go_wp2_with fail
      refine HPl.out.mono ?_
      rintro e w9 ⟨rfl, c9, r9, hc9, hr9, hs9, hk9⟩
      have HB9 := Lib.hid (HB8.out.trans (hk9.below (fun b hb => HX.out b hb) HB8.out.size))
      have HSb := Lib.hid (lsame_any hc9 hr9 hs9)
      have hop : o.p = .pointer (some ⟨o.bc, 0, none⟩) := rfl
      rw [hop] at HSb
      clear hop hc9 hr9 hs9 hk9 HPl p0 p1 p2 p3 p4
      go_wp2_with fail
      refine HSb.out.mono ?_
      rintro e w10 ⟨rfl, hb10⟩
      have HB10 := Lib.hid (HB9.out.trans (hb10.mono HB9.out.size))
      clear hb10 HSb
      go_wp2_with fail
      refine (HKn.out _).mono ?_
      rintro e w' ⟨rfl, hb11⟩
      have HB11 := Lib.hid (HB10.out.trans (hb11.mono HB10.out.size))
      clear hb11
      go_wp2
      go_ret
      exact ⟨rfl, HB11.out⟩

end Go.Proofs.Ytiaaeiefgnoiaaa
