/-
  The statement that of any page any inode is got and put, or it is told why not.
-/
import Derived.Test.YtolahkfjlifnoaaInoRefG
namespace Go.Proofs.Ytolahkfjlifnoaa
open Go.RowKit Crcm Tagm Inom Go.ChangeShapes

/-- a table page with an inode, or none; the error beside it -/
def pB (l : List Int) (K : Int) (i : Ind) : List Int := if Inn l.length K ∧ IR i then splice l (K.toNat * 24) (wb i) else []
def pF (l : List Int) (K : Int) (i : Ind) : Int := if Inn l.length K then (if IR i then 0 else 51) else 1
theorem iputs_all (a : Option Addr) (cap : Nat) (K : Int) (i : Ind) (l : List Int) (w : World) (hr : Rw w a l) :
    Calls Try.prog 29 #[.slice a l.length cap, .int .i64 K, iv i] w fun e w' => (∃ A c, e = .returned (.tuple #[.slice A (pB l K i).length c, .int .i64 (pF l K i)]) ∧ Rw w' A (pB l K i)) ∧ Below w.heap.size w w' := by
  unfold pB pF
  by_cases h : Inn l.length K
  · by_cases h2 : IR i
    · obtain ⟨k, rfl, hk, hk2⟩ := h.sz
      rw [if_pos ⟨h, h2⟩, if_pos h, if_pos h2, Int.toNat_natCast]
      refine (iputs_yes a cap k i l w hr h h2 hk hk2).mono ?_
      rintro e w' ⟨⟨g, cc, rfl, -, hq⟩, hb⟩
      exact ⟨⟨_, cc, by rw [length_splice _ _ _ (by rw [wb_len]; omega)], hq⟩, hb⟩
    · rw [if_neg (fun q => h2 q.2), if_pos h, if_neg h2]
      refine (iputs_no a l.length cap K i w h h2).mono ?_
      rintro e w' ⟨rfl, hb⟩
      exact ⟨⟨none, 0, rfl, Rw.nil⟩, hb⟩
  · rw [if_neg (fun q => h q.1), if_neg h]
    refine (iputs_out a l.length cap K i w h).mono ?_
    rintro e w' ⟨rfl, hb⟩
    exact ⟨⟨none, 0, rfl, Rw.nil⟩, hb⟩
theorem irefputs_all (a : Option Addr) (cap : Nat) (K : Int) (i : Ind) (l : List Int) (w : World) (hr : Rw w a l) (hc : l.length ≤ cap) :
    Calls Try.prog 30 #[.slice a l.length cap, .int .i64 K, iv i] w fun e w' => (∃ A c, e = .returned (.tuple #[.slice A (pB l K i).length c, .int .i64 (pF l K i)]) ∧ Rw w' A (pB l K i)) ∧ Below w.heap.size w w' := by
  unfold pB pF
  by_cases h : Inn l.length K
  · by_cases h2 : IR i
    · obtain ⟨k, rfl, hk, hk2⟩ := h.sz
      rw [if_pos ⟨h, h2⟩, if_pos h, if_pos h2, Int.toNat_natCast]
      refine (irefputs_yes a cap k i l w hr h h2 hk hk2 hc).mono ?_
      rintro e w' ⟨⟨g, cc, rfl, hq⟩, hb⟩
      exact ⟨⟨_, cc, by rw [length_splice _ _ _ (by rw [wb_len]; omega)], hq⟩, hb⟩
    · rw [if_neg (fun q => h2 q.2), if_pos h, if_neg h2]
      refine (irefputs_no a l.length cap K i w h h2).mono ?_
      rintro e w' ⟨rfl, hb⟩
      exact ⟨⟨none, 0, rfl, Rw.nil⟩, hb⟩
  · rw [if_neg (fun q => h q.1), if_neg h]
    refine (irefputs_out a l.length cap K i w h).mono ?_
    rintro e w' ⟨rfl, hb⟩
    exact ⟨⟨none, 0, rfl, Rw.nil⟩, hb⟩

set_option maxRecDepth 100000 in
set_option maxHeartbeats 1000000 in
theorem inodeTables_long (i : Ind) (a : Option Addr) (n cap : Nat) (K : Int) (w : World) (h : 1500 < n) :
    Calls Try.prog 4 #[.slice a n cap, .int .i64 K, iv i] w fun e w' => e = .returned (.bool true) ∧ Below w.heap.size w w' := by
  have HL := Lib.hid (fun w => ilong_yes a n cap w h)
  clear h
  unfold iv
  go_enter Try.func4, Try.ntmps4
  go_wp2_with fail
  refine (HL.out _).mono ?_
  rintro e w' ⟨rfl, rfl⟩
  go_wp2_with fail
  refine (iknown_any _).mono ?_
  rintro e w' ⟨rfl, hb⟩
  go_wp2
  go_ret
  exact ⟨rfl, ((Below.refl _ _).alloc (Nat.le_refl _) _).trans (hb.mono (by simp))⟩

set_option maxRecDepth 100000 in
set_option maxHeartbeats 8000000 in
theorem inodeTables_short (i : Ind) (a : Option Addr) (cap : Nat) (l : List Int) (K : Int) (w : World) (h : l.length ≤ 1500) (hr : Rw w a l) (hc : l.length ≤ cap) :
    Calls Try.prog 4 #[.slice a l.length cap, .int .i64 K, iv i] w fun e w' => e = .returned (.bool true) ∧ Below w.heap.size w w' := by
  have HL := Lib.hid (fun w => ilong_no a l.length cap w h)
  have HG1 := Lib.hid (fun w hq => iget_any a l.length cap K l w hq rfl hc)
  have HG2 := Lib.hid (fun w hq => irefget_any a l.length cap K l w hq rfl hc)
  have HP1 := Lib.hid (fun w hq => iputs_all a cap K i l w hq)
  have HP2 := Lib.hid (fun w hq => irefputs_all a cap K i l w hq hc)
  have HE := fun w => ieq (gI l K) (gI l K) w
  rw [decide_eq_true rfl] at HE
  have HR := Lib.hid hr
  clear h hc hr
  obtain ⟨bb, hbb⟩ : ∃ bb, pB l K i = bb := ⟨_, rfl⟩
  rw [hbb] at HP1 HP2
  generalize pF l K i = ew at HP1 HP2
  generalize gI l K = r at HG1 HG2 HE
  generalize gE l K = f at HG1 HG2
  have A0 : Hid (Blk (w.alloc (.cells #[.int .i64 i.k, .int .i64 i.l, .int .i64 i.s, .int .i64 i.d0, .int .i64 i.d1, .int .i64 i.d2, .int .i64 i.d3, .int .i64 i.d4, .int .i64 i.d5, .int .i64 i.sg, .int .i64 i.db] 24)) w.heap.size 24 #[.int .i64 i.k, .int .i64 i.l, .int .i64 i.s, .int .i64 i.d0, .int .i64 i.d1, .int .i64 i.d2, .int .i64 i.d3, .int .i64 i.d4, .int .i64 i.d5, .int .i64 i.sg, .int .i64 i.db]) := Lib.hid (Blk.new w _ _)
  have B0 : Hid (Below w.heap.size w (w.alloc (.cells #[.int .i64 i.k, .int .i64 i.l, .int .i64 i.s, .int .i64 i.d0, .int .i64 i.d1, .int .i64 i.d2, .int .i64 i.d3, .int .i64 i.d4, .int .i64 i.d5, .int .i64 i.sg, .int .i64 i.db] 24))) := Lib.hid ((Below.refl _ _).alloc (Nat.le_refl _) _)
  obtain ⟨W0, hW0⟩ : ∃ W0, w.alloc (.cells #[.int .i64 i.k, .int .i64 i.l, .int .i64 i.s, .int .i64 i.d0, .int .i64 i.d1, .int .i64 i.d2, .int .i64 i.d3, .int .i64 i.d4, .int .i64 i.d5, .int .i64 i.sg, .int .i64 i.db] 24) = W0 := ⟨_, rfl⟩
  rw [hW0] at A0 B0
  have HW0 := Lib.hid hW0
  unfold iv at HG1 HG2 HP1 HP2 HE ⊢
  clear hbb hW0
  go_enter Try.func4, Try.ntmps4
  go_wp2_with fail
  refine (HL.out _).mono ?_
  rintro e w' ⟨rfl, rfl⟩
  go_wp2_with fail
  rw [HW0.out]
  refine (HG1.out _ (HR.out.below B0.out)).mono ?_
  rintro e w1 ⟨rfl, hb1⟩
  have hb01 := B0.out.trans (hb1.mono B0.out.size)
  have A1 := Lib.hid ((A0.out.below hb1 A0.out.lt).alloc (.cells #[.int .i64 r.k, .int .i64 r.l, .int .i64 r.s, .int .i64 r.d0, .int .i64 r.d1, .int .i64 r.d2, .int .i64 r.d3, .int .i64 r.d4, .int .i64 r.d5, .int .i64 r.sg, .int .i64 r.db] 24))
  have B1 : Hid (Below w.heap.size w (w1.alloc (.cells #[.int .i64 r.k, .int .i64 r.l, .int .i64 r.s, .int .i64 r.d0, .int .i64 r.d1, .int .i64 r.d2, .int .i64 r.d3, .int .i64 r.d4, .int .i64 r.d5, .int .i64 r.sg, .int .i64 r.db] 24))) := Lib.hid (hb01.alloc hb01.size _)
  have R1 := Lib.hid (Blk.new w1 24 #[.int .i64 r.k, .int .i64 r.l, .int .i64 r.s, .int .i64 r.d0, .int .i64 r.d1, .int .i64 r.d2, .int .i64 r.d3, .int .i64 r.d4, .int .i64 r.d5, .int .i64 r.sg, .int .i64 r.db])
  clear hb1 hb01 A0 B0 HL HG1
  go_wp2_with fail
  refine (HG2.out _ (HR.out.below B1.out)).mono ?_
  rintro e w2 ⟨rfl, hb2⟩
  have hb02 := B1.out.trans (hb2.mono B1.out.size)
  have A2 := Lib.hid ((A1.out.below hb2 A1.out.lt).alloc (.cells #[.int .i64 r.k, .int .i64 r.l, .int .i64 r.s, .int .i64 r.d0, .int .i64 r.d1, .int .i64 r.d2, .int .i64 r.d3, .int .i64 r.d4, .int .i64 r.d5, .int .i64 r.sg, .int .i64 r.db] 24))
  have B2 : Hid (Below w.heap.size w (w2.alloc (.cells #[.int .i64 r.k, .int .i64 r.l, .int .i64 r.s, .int .i64 r.d0, .int .i64 r.d1, .int .i64 r.d2, .int .i64 r.d3, .int .i64 r.d4, .int .i64 r.d5, .int .i64 r.sg, .int .i64 r.db] 24))) := Lib.hid (hb02.alloc hb02.size _)
  have R2 := Lib.hid ((R1.out.below hb2 R1.out.lt).alloc (.cells #[.int .i64 r.k, .int .i64 r.l, .int .i64 r.s, .int .i64 r.d0, .int .i64 r.d1, .int .i64 r.d2, .int .i64 r.d3, .int .i64 r.d4, .int .i64 r.d5, .int .i64 r.sg, .int .i64 r.db] 24))
  have S2 := Lib.hid (Blk.new w2 24 #[.int .i64 r.k, .int .i64 r.l, .int .i64 r.s, .int .i64 r.d0, .int .i64 r.d1, .int .i64 r.d2, .int .i64 r.d3, .int .i64 r.d4, .int .i64 r.d5, .int .i64 r.sg, .int .i64 r.db])
  obtain ⟨c0, c1, c2, c3, c4, c5, c6, c7, c8, c9, c10⟩ := A2.out.eleven
  clear hb2 hb02 A1 B1 R1 HG2
  go_wp2_with fail
  refine (HP1.out _ (HR.out.below B2.out)).mono ?_
  rintro e w3 ⟨⟨X, cx, rfl, hX⟩, hb3⟩
  have A3 := Lib.hid (A2.out.below hb3 A2.out.lt)
  have B3 := Lib.hid (B2.out.trans (hb3.mono B2.out.size))
  have R3 := Lib.hid (R2.out.below hb3 R2.out.lt)
  have S3 := Lib.hid (S2.out.below hb3 S2.out.lt)
  have X3 := Lib.hid hX
  clear hb3 A2 B2 R2 S2 hX HP1 c0 c1 c2 c3 c4 c5 c6 c7 c8 c9 c10
  obtain ⟨c0, c1, c2, c3, c4, c5, c6, c7, c8, c9, c10⟩ := A3.out.eleven
  go_wp2_with fail
  refine (HP2.out _ (HR.out.below B3.out)).mono ?_
  rintro e w4 ⟨⟨Y, cy, rfl, hY⟩, hb4⟩
  have B4 := Lib.hid (B3.out.trans (hb4.mono B3.out.size))
  have R4 := R3.out.below hb4 R3.out.lt
  have S4 := S3.out.below hb4 S3.out.lt
  have hS := same_any X Y cx cy bb.length bb.length bb bb w4 (X3.out.below hb4) hY rfl rfl
  rw [decide_eq_true rfl] at hS
  have HS := Lib.hid hS
  clear hb4 A3 B3 R3 S3 X3 hY hS HP2 c0 c1 c2 c3 c4 c5 c6 c7 c8 c9 c10
  obtain ⟨c0, c1, c2, c3, c4, c5, c6, c7, c8, c9, c10⟩ := R4.eleven
  obtain ⟨e0, e1, e2, e3, e4, e5, e6, e7, e8, e9, e10⟩ := S4.eleven
  clear R4 S4
  go_wp2_with fail
  refine HS.out.mono ?_
  rintro e w' ⟨rfl, rfl⟩
  clear c0 c1 c2 c3 c4 c5 c6 c7 c8 c9 c10 e0 e1 e2 e3 e4 e5 e6 e7 e8 e9 e10
  go_wp2_with fail
  refine (iknown_any _).mono ?_
  rintro e w' ⟨rfl, hb⟩
  go_wp2
  go_ret
  exact ⟨rfl, B4.out.trans (hb.mono B4.out.size)⟩

theorem inodeTables_walk (a : Option Addr) (len cap : Nat) (z : List Int) (K : Int) (k l s d0 d1 d2 d3 d4 d5 sg db : Int) (w : World) (hz : Row8 w a len cap z) (_x1 : (Lit.int .i64 K).wf = true) (_w0 : (Lit.int .i64 k).wf = true) (_w1 : (Lit.int .i64 l).wf = true) (_w2 : (Lit.int .i64 s).wf = true) (_w3 : (Lit.int .i64 d0).wf = true) (_w4 : (Lit.int .i64 d1).wf = true) (_w5 : (Lit.int .i64 d2).wf = true) (_w6 : (Lit.int .i64 d3).wf = true) (_w7 : (Lit.int .i64 d4).wf = true) (_w8 : (Lit.int .i64 d5).wf = true) (_w9 : (Lit.int .i64 sg).wf = true) (_w10 : (Lit.int .i64 db).wf = true) :
    Calls Try.prog 4 #[.slice a len cap, .int .i64 K, .agg #[.int .i64 k, .int .i64 l, .int .i64 s, .int .i64 d0, .int .i64 d1, .int .i64 d2, .int .i64 d3, .int .i64 d4, .int .i64 d5, .int .i64 sg, .int .i64 db]] w fun e w' => e = .returned (.bool true) ∧ Below w.heap.size w w' := by
  obtain ⟨n, rfl, hc, hr, -⟩ := hz.rw
  show Calls Try.prog 4 #[.slice a n.length cap, .int .i64 K, iv ⟨k, l, s, d0, d1, d2, d3, d4, d5, sg, db⟩] w _
  by_cases h : 1500 < n.length
  · exact inodeTables_long _ a n.length cap K w h
  · exact inodeTables_short _ a cap n K w (by omega) hr hc

end Go.Proofs.Ytolahkfjlifnoaa
