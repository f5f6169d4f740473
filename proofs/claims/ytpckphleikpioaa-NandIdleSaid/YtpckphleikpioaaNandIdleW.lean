/-
  What is refused changes nothing: the law NandIdle.
-/
import Derived.Test.YtpckphleikpioaaMadeW
import Derived.Test.YtpckphleikpioaaNandCopy
import Derived.Test.YtpckphleikpioaaNandKnown
import Derived.Deep.CutRange
import Derived.Deep.CutBlock
namespace Go.Proofs.Ytpckphleikpioaa
open Go.RowKit Crcm Tagm Go.ChangeShapes

attribute [local go_sem] Oper.semAt_some

set_option maxRecDepth 100000 in
theorem dup_any {w : World} {o : Own} {c : Ch} (h : Dc w o c) :
    Calls Try.prog 21 #[.pointer (some ⟨o.bc, 0, none⟩)] w fun e w' => e = .returned (.bool c.up) ∧ w = w' := by
  have c4 := h.up
  clear h
  go_enter Try.func21, Try.ntmps21
  go_wp2
  go_ret
  exact ⟨rfl, rfl⟩
set_option maxRecDepth 100000 in
theorem dstrokes_any {w : World} {o : Own} {c : Ch} (h : Dc w o c) :
    Calls Try.prog 28 #[.pointer (some ⟨o.bc, 0, none⟩)] w fun e w' => e = .returned (.int .i64 c.strokes) ∧ w = w' := by
  have c7 := h.strokes
  clear h
  go_enter Try.func28, Try.ntmps28
  go_wp2
  go_ret
  exact ⟨rfl, rfl⟩
set_option maxRecDepth 100000 in
theorem dblock_yes {w : World} {o : Own} {c : Ch} (h : Dc w o c) (k : Nat) (hk : k < c.nb) :
    Calls Try.prog 59 #[.pointer (some ⟨o.bc, 0, none⟩), .int .i64 k] w fun e w' => e = .returned (.pointer (some ⟨o.bb, k * 4, none⟩)) ∧ w = w' := by
  obtain ⟨cp, c3⟩ := h.row
  clear h
  have t0 : decide ((k : Int) < 0) = false := decide_eq_false (by omega)
  have t1 : decide ((c.nb : Int) ≤ (k : Int)) = false := decide_eq_false (by omega)
  have k0 : (0 : Int) ≤ (k : Int) := by omega
  have k1 : (k : Int) < (c.nb : Int) := by omega
  clear hk
  go_enter Try.func59, Try.ntmps59
  go_wp2
  go_ret
  exact ⟨by simp, rfl⟩
set_option maxRecDepth 100000 in
theorem dbad_any {w : World} {o : Own} {c : Ch} (h : Dc w o c) (k : Nat) (hk : k < c.nb) :
    Calls Try.prog 26 #[.pointer (some ⟨o.bc, 0, none⟩), .int .i64 k] w fun e w' => e = .returned (.bool (c.bad k)) ∧ w = w' := by
  obtain ⟨-, -, b2, -⟩ := h.blk k hk
  have HB := Lib.hid (dblock_yes h k hk)
  clear h hk
  go_enter Try.func26, Try.ntmps26
  go_wp2_with fail
  refine HB.out.mono ?_
  rintro e w' ⟨rfl, rfl⟩
  go_wp2
  go_ret
  exact ⟨rfl, rfl⟩

/-- one operation in a block of its own -/
theorem Ro.one {w w' : World} {g : Nat} {y : Oz} {v3 v4 : Value} (h : Blk w' g 30 #[.int .i64 y.kind, .int .i64 y.block, .int .i64 y.page, v3, v4]) (hw : OzW y) (h3 : BsV w v3 y.b) (h4 : FsV w v4 y.fl) (hb : Below w.heap.size w w') : Ro w' (some ⟨g, 0, none⟩) [y] := by
  refine ⟨by unfold maxLen; simp, by simpa using hw, .inr ⟨g, 0, rfl, fun j hj => ?_⟩⟩
  have hj0 : j = 0 := by simpa using hj
  subst hj0
  refine ⟨h.cell 0, h.cell 1, h.cell 2, ⟨v3, h.cell 3, ?_⟩, ⟨v4, h.cell 4, ?_⟩⟩
  · obtain ⟨A, c, e, h1, h2, h3'⟩ := h3
    exact ⟨A, c, e, h1, h2, h3'.below hb⟩
  · obtain ⟨A, c, e, h1, h2, h3', h5⟩ := h4
    exact ⟨A, c, e, h1, h2, h3'.belowX hb, h5⟩

set_option maxRecDepth 100000 in
set_option maxHeartbeats 4000000 in
theorem nandIdle_core (x y z : Int) (ab : Option Addr) (nb' cb : Nat) (bl : List Int) (ao : Option Addr) (m co : Nat) (ol : List Oz) (yo : Oz) (v3 v4 : Value) (w : World)
    (hbl : Ri w ab bl) (hl : bl.length = nb') (hol : Ro w ao ol) (hm : ol.length = m) (hz : ∀ y ∈ ol, SzO y) (hyw : OzW yo) (hys : SzO yo) (h3 : BsV w v3 yo.b) (h4 : FsV w v4 yo.fl) :
    Calls Try.prog 5 #[geoV x y z, .slice ab nb' cb, .slice ao m co, .agg #[.int .i64 yo.kind, .int .i64 yo.block, .int .i64 yo.page, v3, v4]] w fun e w' => e = .returned (.bool true) ∧ Below w.heap.size w w' := by
  have HMade := Lib.hid (fun w' (hb : Below w.heap.size w w') => made_any x y z ab nb' cb bl ao m co ol w' (hbl.below hb) hl (hol.below hb) hm hz)
  have HLong := Lib.hid (fun w' g (hb : Below w.heap.size w w') (hk : Blk w' g 30 #[.int .i64 yo.kind, .int .i64 yo.block, .int .i64 yo.page, v3, v4]) => long_few (some ⟨g, 0, none⟩) 1 1 [yo] w' (Ro.one hk hyw h3 h4 hb) rfl (by simpa using hys))
  have HKn := Lib.hid (fun W => knownN_any W)
  obtain ⟨A3, c3, rfl, -, -, hr3⟩ := h3
  obtain ⟨A4, c4, rfl, -, -, hf4, -⟩ := h4
  have HR3 := Lib.hid hr3
  have HF4 := Lib.hid hf4
  have hb1 := ((Below.refl w.heap.size w).alloc (Nat.le_refl _) (.cells #[.int .i64 x, .int .i64 y, .int .i64 z] 23)).alloc (by simp) (.cells #[.int .i64 yo.kind, .int .i64 yo.block, .int .i64 yo.page, .slice A3 yo.b.length c3, .slice A4 yo.fl.length c4] 30)
  have HG0 := Lib.hid ((Blk.new w 23 #[.int .i64 x, .int .i64 y, .int .i64 z]).alloc (.cells #[.int .i64 yo.kind, .int .i64 yo.block, .int .i64 yo.page, .slice A3 yo.b.length c3, .slice A4 yo.fl.length c4] 30))
  have HP0 : Hid (Blk ((w.alloc (.cells #[.int .i64 x, .int .i64 y, .int .i64 z] 23)).alloc (.cells #[.int .i64 yo.kind, .int .i64 yo.block, .int .i64 yo.page, .slice A3 yo.b.length c3, .slice A4 yo.fl.length c4] 30)) (w.heap.size + 1) 30 #[.int .i64 yo.kind, .int .i64 yo.block, .int .i64 yo.page, .slice A3 yo.b.length c3, .slice A4 yo.fl.length c4]) := Lib.hid (by
    have := Blk.new (w.alloc (.cells #[.int .i64 x, .int .i64 y, .int .i64 z] 23)) 30 #[.int .i64 yo.kind, .int .i64 yo.block, .int .i64 yo.page, .slice A3 yo.b.length c3, .slice A4 yo.fl.length c4]
    simpa using this)
  have HB0 := Lib.hid hb1
  obtain ⟨m3, h3⟩ : ∃ n, yo.b.length = n := ⟨_, rfl⟩
  obtain ⟨m4, h4⟩ : ∃ n, yo.fl.length = n := ⟨_, rfl⟩
  have H3 := Lib.hid h3
  have H4 := Lib.hid h4
  rw [h3, h4] at HLong HB0 HG0 HP0 ⊢
  rw [h4] at HF4
  unfold geoV at HMade ⊢
  clear hbl hl hol hm hz hyw hys hr3 hf4 hb1 h3 h4
  go_enter Try.func5, Try.ntmps5
  go_upto_region 1 with (fail)
  generalize ((w.alloc (.cells #[.int .i64 x, .int .i64 y, .int .i64 z] 23)).alloc (.cells #[.int .i64 yo.kind, .int .i64 yo.block, .int .i64 yo.page, .slice A3 m3 c3, .slice A4 m4 c4] 30)) = W at HB0 HG0 HP0 ⊢
  obtain ⟨gb, hgb⟩ : ∃ gb, w.heap.size = gb := ⟨_, rfl⟩
  have HGb := Lib.hid hgb
  rw [hgb] at HG0 HP0 ⊢
  clear hgb
  have q0 : W.cell? ⟨gb, 0, none⟩ = some (.int .i64 x) := HG0.out.cell 0
  have q1 : W.cell? ⟨gb, 1, none⟩ = some (.int .i64 y) := HG0.out.cell 1
  have q2 : W.cell? ⟨gb, 2, none⟩ = some (.int .i64 z) := HG0.out.cell 2
  go_wp2_with fail
  refine (HMade.out _ HB0.out).mono ?_
  rintro e w1 ⟨hb, hcase⟩
  have HB1 := Lib.hid (HB0.out.trans (hb.mono HB0.out.size))
  have HP1 := Lib.hid (HP0.out.below hb HP0.out.lt)
  clear q0 q1 q2 HG0
  rcases hcase with rfl | ⟨X, o, c, r, rfl, htw, hX, -, -, -, hfw⟩
  case inl =>
    clear hb
    go_wp2_with fail
    refine (HKn.out _).mono ?_
    rintro e w' ⟨rfl, hb9⟩
    have HB9 := Lib.hid (HB1.out.trans (hb9.mono HB1.out.size))
    clear hb9
    go_wp2
    go_ret
    exact ⟨rfl, HB9.out⟩
  have HCh := Lib.hid htw.a
  have HFw := Lib.hid hfw
  have HX1 : Hid (∀ b, X b → w.heap.size ≤ b) := Lib.hid fun b h => Nat.le_trans HB0.out.size (hX b h)
  have hop : o.p = .pointer (some ⟨o.bc, 0, none⟩) := rfl
  rw [hop]
  have p0 : w1.cell? ⟨gb + 1, 0, none⟩ = some (.int .i64 yo.kind) := HP1.out.cell 0
  have p1 : w1.cell? ⟨gb + 1, 1, none⟩ = some (.int .i64 yo.block) := HP1.out.cell 1
  have p2 : w1.cell? ⟨gb + 1, 2, none⟩ = some (.int .i64 yo.page) := HP1.out.cell 2
  have p3 : w1.cell? ⟨gb + 1, 3, none⟩ = some (.slice A3 m3 c3) := HP1.out.cell 3
  have p4 : w1.cell? ⟨gb + 1, 4, none⟩ = some (.slice A4 m4 c4) := HP1.out.cell 4
  clear hb htw hfw hX HMade hop
  have hal := (Below.refl w1.heap.size w1).alloc (Nat.le_refl _) (.cells #[.int .i64 yo.kind, .int .i64 yo.block, .int .i64 yo.page, .slice A3 m3 c3, .slice A4 m4 c4] 30)
  have HL := Lib.hid (HLong.out _ w1.heap.size (HB1.out.trans (hal.mono HB1.out.size)) (Blk.new w1 30 #[.int .i64 yo.kind, .int .i64 yo.block, .int .i64 yo.page, .slice A3 m3 c3, .slice A4 m4 c4]))
  have HC2 := Lib.hid (HCh.out.below hal)
  have HB2 := Lib.hid (HB1.out.trans (hal.mono HB1.out.size))
  have HP2 := Lib.hid (HP1.out.below hal HP1.out.lt)
  clear hal HLong
  go_wp2_with fail
  refine HL.out.mono ?_
  rintro e w' ⟨he, rfl⟩
  clear HL p0 p1 p2 p3 p4 HCh HB1 HP1
  generalize (w1.alloc (.cells #[.int .i64 yo.kind, .int .i64 yo.block, .int .i64 yo.page, .slice A3 m3 c3, .slice A4 m4 c4] 30)) = w2 at HC2 HB2 HP2 ⊢
  rcases he with ⟨rfl, hsm⟩ | rfl
  case inr =>
    go_wp2_with fail
    refine (HKn.out _).mono ?_
    rintro e w' ⟨rfl, hb9⟩
    have HB9 := Lib.hid (HB2.out.trans (hb9.mono HB2.out.size))
    clear hb9
    go_wp2
    go_ret
    exact ⟨rfl, HB9.out⟩
  have HSm := Lib.hid (hsm yo (by simp))
  have HCo := Lib.hid (copy_any HC2.out HFw.out)
  have hop : o.p = .pointer (some ⟨o.bc, 0, none⟩) := rfl
  rw [hop] at HCo
  clear hsm hop
  go_wp2_with fail
  refine HCo.out.mono ?_
  rintro e w3 ⟨⟨d, rfl, hdc⟩, hb3⟩
  have HC3 := Lib.hid (HC2.out.below hb3)
  have HB3 := Lib.hid (HB2.out.trans (hb3.mono HB2.out.size))
  have HP3 := Lib.hid (HP2.out.below hb3 HP2.out.lt)
  have HD3 := Lib.hid hdc
  have HU := Lib.hid (up_any HC3.out)
  have hop : o.p = .pointer (some ⟨o.bc, 0, none⟩) := rfl
  rw [hop] at HU
  clear hdc hb3 HC2 HB2 HP2 HCo hop
  go_wp2_with fail
  refine HU.out.mono ?_
  rintro e w' ⟨rfl, rfl⟩
  have p0 : w3.cell? ⟨gb + 1, 0, none⟩ = some (.int .i64 yo.kind) := HP3.out.cell 0
  have p1 : w3.cell? ⟨gb + 1, 1, none⟩ = some (.int .i64 yo.block) := HP3.out.cell 1
  have p2 : w3.cell? ⟨gb + 1, 2, none⟩ = some (.int .i64 yo.page) := HP3.out.cell 2
  have p3 : w3.cell? ⟨gb + 1, 3, none⟩ = some (.slice A3 m3 c3) := HP3.out.cell 3
  have p4 : w3.cell? ⟨gb + 1, 4, none⟩ = some (.slice A4 m4 c4) := HP3.out.cell 4
  clear HU
  have HDc3 := Lib.hid HC3.out.dc
  go_upto_block 0 with (fail)
  go_cut [14] (fun s14 wx => ∃ v : Int, s14 = .int .i64 v ∧ Hid (Below w.heap.size w wx) ∧ Hid ((v = 0 ∨ v = 11 ∨ v = 4 ∧ c.up = true) ∨ (Dc wx o c ∧ Dc wx d c)))
  case first =>
    have HIn := Lib.hid (fun (e : Ending) (w' : World) (P : Nat → Prop) (h : GQ w3 X o c P e w') => (by
      obtain ⟨v, c', he, hc, hk, -, hcase⟩ := h
      refine ⟨v, he, HB3.out.trans (hk.below (fun b g => HX1.out b (HC3.out.inX b g)) HB3.out.size), ?_⟩
      rcases hcase with ⟨rfl, hb⟩ | h
      · exact .inr ⟨HDc3.out.below hb, HD3.out.below hb⟩
      · exact .inl h : ∃ v : Int, e = .returned (.int .i64 v) ∧ Below w.heap.size w w' ∧ ((v = 0 ∨ v = 11 ∨ v = 4 ∧ c.up = true) ∨ (Dc w' o c ∧ Dc w' d c))))
    have hop : o.p = .pointer (some ⟨o.bc, 0, none⟩) := rfl
    by_cases k1 : yo.kind = 1
    · have t1 : (yo.kind == 1) = true := beq_iff_eq.2 k1
      have HO := Lib.hid (gprog_all HC3.out yo.block yo.page A3 m3 c3 yo.b ((HR3.out.outX HX1.out).belowX HB3.out) H3.out (fun _ => False))
      rw [hop] at HO
      clear k1 hop
      go_wp2_with fail
      refine HO.out.mono ?_
      intro e w4 hq
      obtain ⟨v, rfl, hb, hv⟩ := HIn.out _ _ _ hq
      have H1 := Lib.hid hb
      have H2 := Lib.hid hv
      clear hq hb hv
      go_wp2
      go_meet
      exact ⟨v, rfl, H1, H2⟩
    have t1 : (yo.kind == 1) = false := beq_eq_false_iff_ne.2 k1
    by_cases k2 : yo.kind = 2
    · have t2 : (yo.kind == 2) = true := beq_iff_eq.2 k2
      have HO := Lib.hid (gerase_all HC3.out yo.block)
      rw [hop] at HO
      clear k1 k2 hop
      go_wp2_with fail
      refine HO.out.mono ?_
      intro e w4 hq
      obtain ⟨v, rfl, hb, hv⟩ := HIn.out _ _ _ hq
      have H1 := Lib.hid hb
      have H2 := Lib.hid hv
      clear hq hb hv
      go_wp2
      go_meet
      exact ⟨v, rfl, H1, H2⟩
    have t2 : (yo.kind == 2) = false := beq_eq_false_iff_ne.2 k2
    by_cases k3 : yo.kind = 3
    · have t3 : (yo.kind == 3) = true := beq_iff_eq.2 k3
      have HO := Lib.hid (gmark_all HC3.out yo.block (fun _ => False))
      rw [hop] at HO
      clear k1 k2 k3 hop
      go_wp2_with fail
      refine HO.out.mono ?_
      intro e w4 hq
      obtain ⟨v, rfl, hb, hv⟩ := HIn.out _ _ _ hq
      have H1 := Lib.hid hb
      have H2 := Lib.hid hv
      clear hq hb hv
      go_wp2
      go_meet
      exact ⟨v, rfl, H1, H2⟩
    have t3 : (yo.kind == 3) = false := beq_eq_false_iff_ne.2 k3
    by_cases k7 : yo.kind = 7
    · have t7 : (yo.kind == 7) = true := beq_iff_eq.2 k7
      have HO := Lib.hid (gscript_all HC3.out A4 m4 c4 yo.fl ((HF4.out.outX HX1.out).belowX HB3.out) H4.out (by have := HSm.out.2.1; have := H4.out; omega) (fun f hf => by have := HSm.out.2.2 f hf; omega) (fun _ => False))
      rw [hop] at HO
      clear k1 k2 k3 k7 hop
      go_wp2_with fail
      refine HO.out.mono ?_
      intro e w4 hq
      obtain ⟨v, rfl, hb, hv⟩ := HIn.out _ _ _ hq
      have H1 := Lib.hid hb
      have H2 := Lib.hid hv
      clear hq hb hv
      go_wp2
      go_meet
      exact ⟨v, rfl, H1, H2⟩
    have t7 : (yo.kind == 7) = false := beq_eq_false_iff_ne.2 k7
    clear k1 k2 k3 k7 hop
    go_wp2
    go_meet
    exact ⟨0, rfl, HB3, Lib.hid (.inl (.inl rfl))⟩
  case rest =>
    obtain ⟨v, rfl, HBx, hcase⟩ := hcut
    clear p0 p1 p2 p3 p4
    by_cases hv : v = 0 ∨ v = 11 ∨ v = 4 ∧ c.up = true
    · clear hcase
      rcases hv with rfl | rfl | ⟨rfl, hu⟩
      · go_wp2_with fail
        refine (HKn.out _).mono ?_
        rintro e w' ⟨rfl, hb9⟩
        have HB9 := Lib.hid (HBx.out.trans (hb9.mono HBx.out.size))
        clear hb9
        go_wp2
        go_ret
        exact ⟨rfl, HB9.out⟩
      · go_wp2_with fail
        refine (HKn.out _).mono ?_
        rintro e w' ⟨rfl, hb9⟩
        have HB9 := Lib.hid (HBx.out.trans (hb9.mono HBx.out.size))
        clear hb9
        go_wp2
        go_ret
        exact ⟨rfl, HB9.out⟩
      · go_wp2_with fail
        refine (HKn.out _).mono ?_
        rintro e w' ⟨rfl, hb9⟩
        have HB9 := Lib.hid (HBx.out.trans (hb9.mono HBx.out.size))
        clear hb9
        go_wp2
        go_ret
        exact ⟨rfl, HB9.out⟩
    have hc2 : Dc wc o c ∧ Dc wc d c := hcase.out.resolve_left hv
    have HDx := Lib.hid hc2.1
    have HEx := Lib.hid hc2.2
    have u1 : (v == 0) = false := beq_eq_false_iff_ne.2 (fun e => hv (.inl e))
    have u2 : (v == 11) = false := beq_eq_false_iff_ne.2 (fun e => hv (.inr (.inl e)))
    have HDp := Lib.hid (dump_any hc2.1)
    have hop : o.p = .pointer (some ⟨o.bc, 0, none⟩) := rfl
    rw [hop] at HDp
    have hgd := hc2.1.good
    unfold Gd at hgd
    have n9 : c.nb < 129 := by omega
    have np9 : c.nb * c.np ≤ 128 * 32 := Nat.mul_le_mul (by omega) (by omega)
    have hal : (allp c c.nb).length = c.nb * c.np := allp_len c c.nb
    have HAl := Lib.hid hal
    have HNP := Lib.hid np9
    have hcase4 : (v == 4) = false ∨ (v = 4 ∧ c.up = false) := by
      by_cases e : v = 4
      · right
        refine ⟨e, ?_⟩
        cases hu : c.up
        · rfl
        · exact absurd (.inr (.inr ⟨e, hu⟩)) hv
      · exact .inl (beq_eq_false_iff_ne.2 e)
    have HUe : Hid ((c.up == c.up) = true) := Lib.hid (by simp)
    clear hv hc2 hcase hop hgd np9 hal
    rcases hcase4 with u4 | ⟨rfl, hu⟩
    all_goals
      go_wp2_with fail
      refine HDp.out.mono ?_
      rintro e w5 ⟨⟨gp, cp, gd, cd, gw, cw, rfl, hrl, -, hww⟩, hb5⟩
      have HR5 := Lib.hid hrl
      have HW5 := Lib.hid hww
      have HB5 := Lib.hid (HBx.out.trans (hb5.mono HBx.out.size))
      have HD5 := Lib.hid (HDx.out.below hb5)
      have HE5 := Lib.hid (HEx.out.below hb5)
      have HDq := Lib.hid (dump_any HE5.out)
      have hop : d.p = .pointer (some ⟨d.bc, 0, none⟩) := rfl
      rw [hop] at HDq
      clear hrl hww hb5 hop HDp
      go_wp2_with fail
      refine HDq.out.mono ?_
      rintro e w6 ⟨⟨gq, cq, ge, ce, gv, cv, rfl, hrl, -, hvv⟩, hb6⟩
      have HR6 := Lib.hid (HR5.out.below hb6)
      have HS6 := Lib.hid hrl
      have HW6 := Lib.hid (fun i (hi : i < c.nb) => (hb6.cell (block_lt_of_cell (HW5.out i hi))).trans (HW5.out i hi))
      have HV6 := Lib.hid hvv
      have HB6 := Lib.hid (HB5.out.trans (hb6.mono HB5.out.size))
      have HD6 := Lib.hid (HD5.out.below hb6)
      have HE6 := Lib.hid (HE5.out.below hb6)
      clear hrl hvv hb6 HDq
      obtain ⟨nb, hnb⟩ : ∃ nb, c.nb = nb := ⟨_, rfl⟩
      have HNb := Lib.hid hnb
      rw [hnb] at n9
      rw [hnb]
      clear hnb
      go_wp2_with fail
      go_loopw [21] (fun i wr => ∃ k : Nat, k ≤ nb ∧ i = .int .i64 k ∧ Hid (Below w6.heap.size w6 wr)) (fun i _ => nb - (intOf i).toNat)
      case atStart => exact ⟨0, Nat.zero_le _, rfl, Lib.hid (Below.refl _ _)⟩
      case round =>
        obtain ⟨k, hkn, rfl, hB⟩ := hrel
        by_cases hlt : k < nb
        · have kl : (k : Int) < (nb : Int) := by omega
          have k0 : (0 : Int) ≤ (k : Int) := by omega
          have hkc : k < c.nb := by rw [HNb.out]; exact hlt
          have e1 := fun mm : Later wr => latercellD mm ((hB.out.cell (block_lt_of_cell (HW6.out k hkc))).trans (HW6.out k hkc))
          have e2 := fun mm : Later wr => latercellD mm ((hB.out.cell (block_lt_of_cell (HV6.out k hkc))).trans (HV6.out k hkc))
          have HB1 := Lib.hid (fun mm : Later wr => later_same (dbad_any ((HD6.out.below hB.out).below mm.bel) k hkc))
          have HB2 := Lib.hid (fun mm : Later wr => later_same (dbad_any ((HE6.out.below hB.out).below mm.bel) k hkc))
          have t1 : ((c.wear k) != (c.wear k)) = false := bne_self_eq_false _
          have t2 : ((c.bad k) != (c.bad k)) = false := bne_self_eq_false _
          generalize c.wear k = wk at e1 e2 t1
          generalize c.bad k = bk at HB1 HB2 t2
          clear hkc
          go_wp2_with fail
          refine wp_region_later (by kernel_rfl) (by kernel_rfl) ?_
          repeat (go_big_quiet_step (with_reducible first | exact HB1.out _ | exact HB2.out _))
          refine wpQuiet_nil ?_
          rintro _ ⟨mm, rfl⟩
          go_wp2
          go_roundw
          case rel => exact ⟨k + 1, by omega, by go_num, Lib.hid (hB.out.trans (mm.bel.mono hB.out.size))⟩
          case measure => simp [intOf]; omega
        · have kl : ¬ (k : Int) < (nb : Int) := by omega
          have HSa := Lib.hid (rsame_any (some ⟨gp, 0, none⟩) (some ⟨gq, 0, none⟩) (nb * c.np) cp cq (allp c c.nb) wr (HR6.out.below hB.out) (HS6.out.below hB.out) (by rw [HAl.out, HNb.out]) (by have := HNP.out; rw [HNb.out] at this; omega))
          go_wp2_with fail
          refine HSa.out.mono ?_
          rintro e w7 ⟨rfl, hb7⟩
          have HB7 := Lib.hid (HB6.out.trans ((hB.out.trans (hb7.mono hB.out.size)).mono HB6.out.size))
          have hb67 := hB.out.trans (hb7.mono hB.out.size)
          have HS1 := Lib.hid (dstrokes_any (HD6.out.below hb67))
          have HS2 := Lib.hid (dstrokes_any (HE6.out.below hb67))
          have HU1 := Lib.hid (dup_any (HD6.out.below hb67))
          have HU2 := Lib.hid (dup_any (HE6.out.below hb67))
          clear hb7 hb67 HSa
          go_wp2_with fail
          refine HS1.out.mono ?_
          rintro e w' ⟨rfl, rfl⟩
          go_wp2_with fail
          refine HS2.out.mono ?_
          rintro e w' ⟨rfl, rfl⟩
          have ts : (c.strokes == c.strokes) = true := beq_self_eq_true _
          go_wp2_with fail
          refine HU1.out.mono ?_
          rintro e w' ⟨rfl, rfl⟩
          go_wp2_with fail
          refine HU2.out.mono ?_
          rintro e w' ⟨rfl, rfl⟩
          have tu : (c.up == c.up) = true := beq_self_eq_true _
          go_wp2_with fail
          refine (HKn.out _).mono ?_
          rintro e w' ⟨rfl, hb9⟩
          have HB9 := Lib.hid (HB7.out.trans (hb9.mono HB7.out.size))
          clear hb9
          go_wp2
          go_ret
          exact ⟨rfl, HB9.out⟩

end Go.Proofs.Ytpckphleikpioaa
