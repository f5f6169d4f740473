/-
  A chip behind some operations, and the document's: the law's call made, whole.
-/
import Derived.Test.YtpckphleikpioaaMade
import Derived.OwnWalk
namespace Go.Proofs.Ytpckphleikpioaa
open Go.RowKit Crcm Tagm Go.ChangeShapes

/-- what made comes to -/
def MdP (w : World) (x y z : Int) (bl : List Int) (ol : List Oz) (e : Ending) (w' : World) : Prop :=
  Below w.heap.size w w' ∧ (e = .returned (.tuple #[.pointer none, .pointer none, .bool false]) ∨
    ∃ (X : Nat → Prop) (o : Own) (c : Ch) (r : Rb), e = .returned (.tuple #[o.p, .pointer (some ⟨r.g, 0, none⟩), .bool true]) ∧ Tw w' X o c r ∧ (∀ b, X b → w.heap.size ≤ b) ∧ ((c.nb : Int) = x ∧ (c.np : Int) = y ∧ (c.sz : Int) = z) ∧ (∀ v ∈ bl, 0 ≤ v ∧ v < x) ∧ (∀ y ∈ ol, Sm 9000 y) ∧ Fw c)
theorem Ri.belowB {w w' : World} {a : Option Addr} {l : List Int} (h : Ri w a l) (hb : Below w.heap.size w w') : Ri w' a l := h.below hb
theorem Ro.below {w w' : World} {a : Option Addr} {l : List Oz} (h : Ro w a l) (hb : Below w.heap.size w w') : Ro w' a l := by
  refine ⟨h.1, h.2.1, ?_⟩
  rcases h.2.2 with h3 | ⟨b, off, rfl, h3⟩
  · exact .inl h3
  · refine .inr ⟨b, off, rfl, fun j hj => ?_⟩
    obtain ⟨c0, c1, c2, ⟨v3, c3, A3, k3, e3, h31, h32, h33⟩, ⟨v4, c4, A4, k4, e4, h41, h42, h43, h44⟩⟩ := h3 j hj
    exact ⟨(hb.cell (block_lt_of_cell c0)).trans c0, (hb.cell (block_lt_of_cell c1)).trans c1, (hb.cell (block_lt_of_cell c2)).trans c2, ⟨v3, (hb.cell (block_lt_of_cell c3)).trans c3, A3, k3, e3, h31, h32, h33.below hb⟩,
      ⟨v4, (hb.cell (block_lt_of_cell c4)).trans c4, A4, k4, e4, h41, h42, h43.belowX hb, h44⟩⟩

set_option maxRecDepth 100000 in
set_option maxHeartbeats 4000000 in
theorem made_any (x y z : Int) (ab : Option Addr) (nb' cb : Nat) (bl : List Int) (ao : Option Addr) (m co : Nat) (ol : List Oz) (w : World) (hbl : Ri w ab bl) (hl : bl.length = nb') (hol : Ro w ao ol) (hm : ol.length = m) (hz : ∀ y ∈ ol, SzO y) :
    Calls Try.prog 14 #[geoV x y z, .slice ab nb' cb, .slice ao m co] w (MdP w x y z bl ol) := by
  have hbx := (Below.refl w.heap.size w).alloc (Nat.le_refl _) (.cells #[.int .i64 x, .int .i64 y, .int .i64 z] 23)
  have HB0 := Lib.hid hbx
  have HG0 := Lib.hid (Blk.new w 23 #[.int .i64 x, .int .i64 y, .int .i64 z])
  have HBl := Lib.hid hbl
  have HL := Lib.hid hl
  have HOl := Lib.hid hol
  have HM := Lib.hid hm
  have HZ := Lib.hid hz
  have n9 : nb' ≤ 9223372036854775807 := by have := hbl.1; unfold maxLen at this; omega
  have m9 : m ≤ 9223372036854775807 := by have := hol.1; unfold maxLen at this; omega
  have HLong := Lib.hid (fun w' (hb : Below w.heap.size w w') => long_few ao m co ol w' (hol.below hb) hm hz)
  clear hbx hbl hl hol hm hz
  by_cases hg : GdI x y z
  · have HW := Lib.hid (fun w' => wide_yes hg w')
    obtain ⟨nb, rfl⟩ : ∃ n : Nat, x = n := ⟨x.toNat, by unfold GdI at hg; omega⟩
    obtain ⟨np, rfl⟩ : ∃ n : Nat, y = n := ⟨y.toNat, by unfold GdI at hg; omega⟩
    obtain ⟨sz, rfl⟩ : ∃ n : Nat, z = n := ⟨z.toNat, by unfold GdI at hg; omega⟩
    have hgd : Gd nb np sz := by unfold GdI at hg; unfold Gd; omega
    have HNew := Lib.hid (fun w' (hb : Below w.heap.size w w') => new_any nb np sz w' hgd bl ab nb' cb (HBl.out.below hb) HL.out)
    have HRef := Lib.hid (fun w' (hb : Below w.heap.size w w') X hX => rnew_any nb np sz w' hgd X hX bl ab nb' cb (HBl.out.below hb) HL.out)
    unfold geoV at HW HNew HRef ⊢
    clear hg hgd
    go_enter Try.func14, Try.ntmps14
    go_upto_region 1 with (fail)
    generalize (w.alloc (.cells #[.int .i64 (nb : Int), .int .i64 (np : Int), .int .i64 (sz : Int)] 23)) = W at HB0 HG0 ⊢
    obtain ⟨gb, hgb⟩ : ∃ gb, w.heap.size = gb := ⟨_, rfl⟩
    have HGb := Lib.hid hgb
    rw [hgb] at HG0 ⊢
    clear hgb
    have q0 : W.cell? ⟨gb, 0, none⟩ = some (.int .i64 nb) := HG0.out.cell 0
    have q1 : W.cell? ⟨gb, 1, none⟩ = some (.int .i64 np) := HG0.out.cell 1
    have q2 : W.cell? ⟨gb, 2, none⟩ = some (.int .i64 sz) := HG0.out.cell 2
    have HNo : Hid (∀ w', Below w.heap.size w w' → MdP w nb np sz bl ol (.returned (.tuple #[.pointer none, .pointer none, .bool false])) w') := Lib.hid fun w' hb => ⟨hb, .inl rfl⟩
    go_wp2_with fail
    refine (HW.out _).mono ?_
    rintro e w1 ⟨he, hb⟩
    have HB1 := Lib.hid (HB0.out.trans (hb.mono HB0.out.size))
    have HG1 := Lib.hid (HG0.out.below hb HG0.out.lt)
    clear hb q0 q1 q2 HG0 HW
    rcases he with rfl | rfl
    case inr =>
      go_wp2
      go_ret3
      exact HNo.out _ HB1.out
    go_wp2_with fail
    refine (HLong.out _ HB1.out).mono ?_
    rintro e w' ⟨he, rfl⟩
    rcases he with ⟨rfl, hsm⟩ | rfl
    case inr =>
      go_wp2
      go_ret3
      exact HNo.out _ HB1.out
    have HSm := Lib.hid hsm
    clear hsm HLong
    by_cases hn : 200 < nb'
    · have t1 : decide ((200 : Int) < (nb' : Int)) = true := by simp; omega
      go_wp2
      go_ret3
      exact HNo.out _ HB1.out
    have t1 : decide ((200 : Int) < (nb' : Int)) = false := by simp; omega
    clear hn
    have q0 : w1.cell? ⟨gb, 0, none⟩ = some (.int .i64 nb) := HG1.out.cell 0
    have q1 : w1.cell? ⟨gb, 1, none⟩ = some (.int .i64 np) := HG1.out.cell 1
    have q2 : w1.cell? ⟨gb, 2, none⟩ = some (.int .i64 sz) := HG1.out.cell 2
    go_wp2_with fail
    refine (HNew.out _ HB1.out).mono ?_
    rintro e w2 ⟨hb2, hcase⟩
    have HB2 := Lib.hid (HB1.out.trans (hb2.mono HB1.out.size))
    have HG2 := Lib.hid (HG1.out.below hb2 HG1.out.lt)
    clear q0 q1 q2 hb2
    have q0 : w2.cell? ⟨gb, 0, none⟩ = some (.int .i64 nb) := HG2.out.cell 0
    have q1 : w2.cell? ⟨gb, 1, none⟩ = some (.int .i64 np) := HG2.out.cell 1
    have q2 : w2.cell? ⟨gb, 2, none⟩ = some (.int .i64 sz) := HG2.out.cell 2
    rcases hcase with ⟨-, o, rfl, hch, hof⟩ | ⟨-, rfl⟩
    case inr =>
      go_wp2_with fail
      refine (HRef.out _ HB2.out (fun _ => False) (fun _ h => h.elim)).mono ?_
      rintro e w3 ⟨hb3, hcase⟩
      have HB3 := Lib.hid (HB2.out.trans (hb3.mono HB2.out.size))
      clear hb3 q0 q1 q2
      rcases hcase with ⟨-, r, rfl, -, -⟩ | ⟨-, rfl⟩
      · go_wp2
        go_ret3
        exact HNo.out _ HB3.out
      · go_wp2
        go_ret3
        exact HNo.out _ HB3.out
    have HCh := Lib.hid hch
    have HOf := Lib.hid hof
    have hop : o.p = .pointer (some ⟨o.bc, 0, none⟩) := rfl
    rw [hop]
    clear hch hof
    go_wp2_with fail
    refine (HRef.out _ HB2.out (fun b => o.F nb b) HCh.out.old).mono ?_
    rintro e w3 ⟨hb3, hcase⟩
    have HB3 := Lib.hid (HB2.out.trans (hb3.mono HB2.out.size))
    rcases hcase with ⟨hgood, r, rfl, hrc, hrf⟩ | ⟨-, rfl⟩
    case inr =>
      clear hb3 q0 q1 q2
      go_wp2
      go_ret3
      exact HNo.out _ HB3.out
    obtain ⟨htw, hX⟩ := Tw.new HCh.out (fun b h => Nat.le_trans HB1.out.size (HOf.out b h)) HB2.out.size hrc hrf hb3
    have HGood := Lib.hid hgood
    clear hgood hrc hrf hb3 q0 q1 q2 HNew HRef HCh HOf
    obtain ⟨X, hXe⟩ : ∃ X : Nat → Prop, (fun b => o.F nb b ∨ r.F b) = X := ⟨_, rfl⟩
    rw [hXe] at htw
    have HX : Hid (∀ b, X b → w.heap.size ≤ b) := Lib.hid (by rw [← hXe]; exact hX)
    have HT := Lib.hid htw
    clear htw hX hXe
    go_wp2_with fail
    go_loopw [13] (fun i wr => ∃ k : Nat, k ≤ m ∧ i = .int .i64 k ∧ Hid (∃ c, Tw wr X o c r ∧ c.nb = nb ∧ c.np = np ∧ c.sz = sz ∧ Fw c) ∧ Hid (Below w.heap.size w wr)) (fun i _ => m - (intOf i).toNat)
    case atStart => exact ⟨0, by omega, rfl, Lib.hid ⟨_, HT.out, rfl, rfl, rfl, Nat.zero_le _, fun f hf => by cases hf⟩, HB3⟩
    case round =>
      obtain ⟨k, hk, rfl, hT, hB⟩ := hrel
      by_cases hlt : k < m
      · have kl : (k : Int) < (m : Int) := by omega
        have k0 : (0 : Int) ≤ (k : Int) := by omega
        have hkl : k < ol.length := by have := HM.out; omega
        obtain ⟨b, off, rfl, hoz⟩ := (HOl.out.below (w' := wr) hB.out).at hkl
        obtain ⟨c0, c1, c2, -, -⟩ := id hoz
        obtain ⟨b', off', hbo, hoz0⟩ := HOl.out.at hkl
        injection hbo with hbo
        injection hbo with e1 e2 e3
        subst e1 e2
        obtain ⟨A3, c3, A4, c4, z3, hr3, z4, hf4⟩ := hoz0.vals
        have z3r := (hB.out.cell (block_lt_of_cell z3)).trans z3
        have z4r := (hB.out.cell (block_lt_of_cell z4)).trans z4
        have hsy := HSm.out _ (List.getElem_mem hkl)
        rw [← getElem!_pos ol k hkl] at hsy
        have HSy := Lib.hid hsy
        have HR3 := Lib.hid ((hr3.outX HX.out).belowX hB.out)
        have HF4 := Lib.hid ((hf4.outX HX.out).belowX hB.out)
        clear hoz hoz0 z3 z4 hr3 hf4 hsy hkl
        generalize ol[k]! = y at c0 c1 c2 z3r z4r HSy HR3 HF4
        obtain ⟨m3, h3⟩ : ∃ n, y.b.length = n := ⟨_, rfl⟩
        obtain ⟨m4, h4⟩ : ∃ n, y.fl.length = n := ⟨_, rfl⟩
        have H3 := Lib.hid h3
        have H4 := Lib.hid h4
        rw [h3] at z3r
        rw [h4] at z4r HF4
        obtain ⟨c, ht, e1, e2, e3, hfw⟩ := hT.out
        have HFw := Lib.hid hfw
        clear hfw
        have HP := Lib.hid (plays_any ht y A3 m3 c3 A4 m4 c4 HR3.out h3 HF4.out h4 HSy.out)
        have hop : o.p = .pointer (some ⟨o.bc, 0, none⟩) := rfl
        rw [hop] at HP
        have HE := Lib.hid (show c.nb = nb ∧ c.np = np ∧ c.sz = sz from ⟨e1, e2, e3⟩)
        clear ht e1 e2 e3 h3 h4 hop hT
        go_wp2_with fail
        refine HP.out.mono ?_
        rintro e w5 ⟨⟨bb, rfl⟩, ⟨c', ht', hkd⟩, hkp⟩
        have HT5 : Hid (∃ c, Tw w5 X o c r ∧ c.nb = nb ∧ c.np = np ∧ c.sz = sz ∧ Fw c) := Lib.hid ⟨c', ht', hkd.1.trans HE.out.1, hkd.2.1.trans HE.out.2.1, hkd.2.2.1.trans HE.out.2.2, hkd.3 HFw.out⟩
        have HB5 := Lib.hid (hB.out.trans ((hkp.below HX.out hB.out.size)))
        clear ht' hkd hkp c0 c1 c2 z3r z4r
        go_wp2
        go_roundw
        case rel => exact ⟨k + 1, by omega, by go_num, HT5, HB5⟩
        case measure => simp [intOf]; omega
      · have kl : ¬ (k : Int) < (m : Int) := by omega
        obtain ⟨c, ht, e1, e2, e3, hfw⟩ := hT.out
        have HFin : Hid (MdP w nb np sz bl ol (.returned (.tuple #[.pointer (some ⟨o.bc, 0, none⟩), .pointer (some ⟨r.g, 0, none⟩), .bool true])) wr) := Lib.hid ⟨hB.out, .inr ⟨X, o, c, r, rfl, ht, HX.out, ⟨by rw [e1], by rw [e2], by rw [e3]⟩, HGood.out, HSm.out, hfw⟩⟩
        clear ht e1 e2 e3 hfw hT
        go_wp2
        go_ret3
        exact HFin.out
  · have HW := Lib.hid (fun w' => wide_no hg w')
    have HNew := Lib.hid (fun w' => gnew_no hg (.slice ab nb' cb) w')
    have HRef := Lib.hid (fun w' => rnew_no hg (.slice ab nb' cb) w')
    have HNo : Hid (∀ w', Below w.heap.size w w' → MdP w x y z bl ol (.returned (.tuple #[.pointer none, .pointer none, .bool false])) w') := Lib.hid fun w' hb => ⟨hb, .inl rfl⟩
    unfold geoV at HW HNew HRef ⊢
    clear hg
    go_enter Try.func14, Try.ntmps14
    go_upto_region 1 with (fail)
    generalize (w.alloc (.cells #[.int .i64 x, .int .i64 y, .int .i64 z] 23)) = W at HB0 HG0 ⊢
    obtain ⟨gb, hgb⟩ : ∃ gb, w.heap.size = gb := ⟨_, rfl⟩
    have HGb := Lib.hid hgb
    rw [hgb] at HG0 ⊢
    clear hgb
    have q0 : W.cell? ⟨gb, 0, none⟩ = some (.int .i64 x) := HG0.out.cell 0
    have q1 : W.cell? ⟨gb, 1, none⟩ = some (.int .i64 y) := HG0.out.cell 1
    have q2 : W.cell? ⟨gb, 2, none⟩ = some (.int .i64 z) := HG0.out.cell 2
    go_wp2_with fail
    refine (HW.out _).mono ?_
    rintro e w1 ⟨rfl, hb⟩
    have HB1 := Lib.hid (HB0.out.trans (hb.mono HB0.out.size))
    have HG1 := Lib.hid (HG0.out.below hb HG0.out.lt)
    clear hb q0 q1 q2 HG0 HW
    go_wp2_with fail
    refine (HLong.out _ HB1.out).mono ?_
    rintro e w' ⟨he, rfl⟩
    rcases he with ⟨rfl, -⟩ | rfl
    case inr =>
      go_wp2
      go_ret3
      exact HNo.out _ HB1.out
    by_cases hn : 200 < nb'
    · have t1 : decide ((200 : Int) < (nb' : Int)) = true := by simp; omega
      go_wp2
      go_ret3
      exact HNo.out _ HB1.out
    have t1 : decide ((200 : Int) < (nb' : Int)) = false := by simp; omega
    clear hn
    have q0 : w1.cell? ⟨gb, 0, none⟩ = some (.int .i64 x) := HG1.out.cell 0
    have q1 : w1.cell? ⟨gb, 1, none⟩ = some (.int .i64 y) := HG1.out.cell 1
    have q2 : w1.cell? ⟨gb, 2, none⟩ = some (.int .i64 z) := HG1.out.cell 2
    go_wp2_with fail
    refine (HNew.out _).mono ?_
    rintro e w2 ⟨rfl, hb2⟩
    have HB2 := Lib.hid (HB1.out.trans (hb2.mono HB1.out.size))
    have HG2 := Lib.hid (HG1.out.below hb2 HG1.out.lt)
    clear q0 q1 q2 hb2
    have q0 : w2.cell? ⟨gb, 0, none⟩ = some (.int .i64 x) := HG2.out.cell 0
    have q1 : w2.cell? ⟨gb, 1, none⟩ = some (.int .i64 y) := HG2.out.cell 1
    have q2 : w2.cell? ⟨gb, 2, none⟩ = some (.int .i64 z) := HG2.out.cell 2
    go_wp2_with fail
    refine (HRef.out _).mono ?_
    rintro e w3 ⟨rfl, hb3⟩
    have HB3 := Lib.hid (HB2.out.trans (hb3.mono HB2.out.size))
    clear hb3 q0 q1 q2
    go_wp2
    go_ret3
    exact HNo.out _ HB3.out

end Go.Proofs.Ytpckphleikpioaa
