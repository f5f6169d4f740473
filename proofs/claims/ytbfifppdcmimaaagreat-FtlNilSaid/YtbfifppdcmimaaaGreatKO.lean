/-
  A page programmed by a manager, whatever comes of it: the walk. Nothing of one statement alone stands here.
-/
import Derived.Test.YtbfifppdcmimaaaGreatKN
namespace Go.Proofs.YtbfifppdcmimaaaGreat
open Go.RowKit Crcm Gcm Go.ChangeShapes

/-- what a programming by a manager comes to -/
def prgT (b : List Int) (l : List Bk) (c : Ch) : (Int × Int × Int) × List Bk × Ch :=
  if c.up = true then (if b.length = c.sz + 32 then prgF b (l.length + 1) l c else ((0, 0, 1), l, c)) else ((0, 0, 4), l, c)
/-- the contract of a call that turns manager and chip -/
def PrP (w : World) (X : Nat → Prop) (M : Nat) (m : Mg) (o : Own) (c : Ch) (R : (Int × Int × Int) × List Bk × Ch) (e : Ending) (w' : World) : Prop :=
  e = .returned (.tuple #[.int .i64 R.1.1, .int .i64 R.1.2.1, .int .i64 R.1.2.2]) ∧ MgAt w' M { m with l := R.2.1 } ∧ ChAt w' X o R.2.2 ∧ Kp (Fm o c.nb m.g) w w'

/-- how many blocks are free or open, by what stands in memory -/
def stW (w : World) (g j : Nat) : Int := match w.cell? ⟨g, j * 4, none⟩ with | some (.int _ z) => z | _ => 4
def foW (g n : Nat) (w : World) : Nat := (List.range n).countP (fun j => stW w g j == 0 || stW w g j == 1)
theorem foW_eq {w : World} {M : Nat} {m : Mg} (h : MgAt w M m) : foW m.g m.l.length w = fo m.l := by
  have e : m.l = (List.range m.l.length).map (fun j => m.l[j]!) := by
    apply List.ext_getElem
    · simp
    · intro i h1 h2
      rw [List.getElem_map, List.getElem_range, getElem!_pos m.l i h1]
  unfold fo
  rw [e, List.countP_map, ← e]
  unfold foW
  refine List.countP_congr fun j hj => ?_
  have hj2 : j < m.l.length := List.mem_range.1 hj
  have := (h.own.at j hj2).1
  unfold stW
  rw [this]
  rfl

set_option maxRecDepth 100000 in
set_option maxHeartbeats 4000000 in
theorem bprogram_any {w : World} {X : Nat → Prop} {M : Nat} {m : Mg} {o : Own} {c : Ch} (h : MgAt w M m) (hc : ChAt w X o c) (hp : m.cp = o.p) (hn : m.l.length = c.nb) (hXg : X m.g) (hoM : ¬ o.F c.nb M) (hog : ¬ o.F c.nb m.g)
    (a : Option Addr) (n cap : Nat) (l : List Int) (hr : RwX w X a l) (hl : l.length = n) :
    Calls Tryz.prog 104 #[.pointer (some ⟨M, 0, none⟩), .slice a n cap] w (PrP w X M m o c (prgT l m.l c)) := by
  have HUp := Lib.hid (bup_any h hc hp)
  have n9 : n ≤ 9223372036854775807 := by have := hr.1.2.1; unfold maxLen at this; omega
  cases hu : c.up with
  | false =>
    have HR : Hid (PrP w X M m o c (prgT l m.l c) (.returned (.tuple #[.int .i64 0, .int .i64 0, .int .i64 4])) w) := Lib.hid (by
      unfold prgT
      rw [if_neg (by rw [hu]; decide)]
      exact ⟨rfl, h, hc, Kp.refl _ _⟩)
    rw [hu, if_neg (by decide)] at HUp
    clear h hc hp hn hXg hoM hog hr hl hu
    go_enter Tryz.func104, Tryz.ntmps104
    go_wp2_with fail
    go_step3
    go_wp2_with fail
    refine HUp.out.mono ?_
    rintro r w' ⟨rfl, rfl⟩
    go_wp2
    rw [Exit.noGoto_ret]
    go_ret3
    exact HR.out
  | true =>
    rw [hu, if_pos rfl] at HUp
    obtain ⟨c0, c1, -, -, -⟩ := h.cells
    rw [hp] at c0
    have HGe := Lib.hid (geo_any hc)
    have hsz0 := hc.good.2.2.2.2
    have gf := gfield2
    have HH := Lib.hid h
    have HCh := Lib.hid hc
    have HRw := Lib.hid hr
    have HL := Lib.hid hl
    have HP := Lib.hid hp
    have HN := Lib.hid hn
    have HU := Lib.hid hu
    have HXg := Lib.hid hXg
    have HoM := Lib.hid hoM
    have Hog := Lib.hid hog
    have hM := h.blk.lt
    have hsz : wrap64 ((c.sz : Int) + 32) = ((c.sz + 32 : Nat) : Int) := by
      rw [IntWalk.wrap64_in _ ⟨by omega, by omega⟩]
      rfl
    by_cases hnn : n = c.sz + 32
    case neg =>
      have t0 : ((n : Int) != wrap64 ((c.sz : Int) + 32)) = true := by rw [hsz]; simp; omega
      have HR : Hid (∀ w1, Below w.heap.size w w1 → PrP w X M m o c (prgT l m.l c) (.returned (.tuple #[.int .i64 0, .int .i64 0, .int .i64 1])) w1) := Lib.hid (fun w1 hb => by
        unfold prgT
        rw [if_pos HU.out, if_neg (by rw [HL.out]; exact hnn)]
        exact ⟨rfl, HH.out.below hb, HCh.out.below hb, Kp.of_below hb⟩)
      clear h hc hp hn hXg hoM hog hr hl hu hnn hsz0 hM
      unfold Own.p at c0 HGe
      go_enter Tryz.func104, Tryz.ntmps104
      go_wp2_with fail
      go_step3
      go_wp2_with fail
      refine HUp.out.mono ?_
      rintro r w' ⟨rfl, rfl⟩
      go_wp2_with fail
      refine HGe.out.mono ?_
      rintro r w1 ⟨rfl, hb1⟩
      have B1 := Lib.hid hb1
      clear hb1
      go_wp2
      rw [Exit.noGoto_ret]
      go_ret3
      exact HR.out _ B1.out
    have t0 : ((n : Int) != wrap64 ((c.sz : Int) + 32)) = false := by rw [hsz]; simp; omega
    have T9 : Hid (((n : Int) != (c.sz : Int) + 32) = false) := Lib.hid (by simp; omega)
    have HT : Hid (prgT l m.l c = prgF l (m.l.length + 1) m.l c) := Lib.hid (by
      unfold prgT
      rw [if_pos hu, if_pos (by rw [hl]; exact hnn)])
    rw [HT.out]
    obtain ⟨R, hR⟩ : ∃ R, prgF l (m.l.length + 1) m.l c = R := ⟨_, rfl⟩
    have HR := Lib.hid hR
    rw [hR]
    clear h hc hp hn hXg hoM hog hr hl hu hnn hsz0 hM hR
    unfold Own.p at c0 HGe
    go_enter Tryz.func104, Tryz.ntmps104
    go_wp2_with fail
    go_step3
    go_wp2_with fail
    refine HUp.out.mono ?_
    rintro r w' ⟨rfl, rfl⟩
    go_wp2_with fail
    refine HGe.out.mono ?_
    rintro r w1 ⟨rfl, hb1⟩
    have M1 := Lib.hid (HH.out.below hb1)
    have C1 := Lib.hid (HCh.out.below hb1)
    have K1 := Lib.hid (Kp.of_below (F := Fm o c.nb m.g) hb1)
    clear hb1 c0 c1 HUp HGe
    go_wp2_with fail
    go_step3
    go_wp2_with fail
    go_loopw [8, 9, 10] (fun s8 s9 s wr => ∃ (j : Nat) (l' : List Bk) (c' : Ch) (z : Int), s8 = .int .i64 0 ∧ s9 = .int .i64 0 ∧ s = .int .i64 z ∧ Hid (fo l' < j) ∧ Hid (prgF l j l' c' = R) ∧ Hid (l'.length = c.nb ∧ c'.nb = c.nb ∧ c'.np = c.np) ∧ Hid (MgAt wr M { m with l := l' }) ∧ Hid (ChAt wr X o c') ∧ Hid (Kp (Fm o c.nb m.g) w wr)) (fun _ _ _ wr => foW m.g c.nb wr)
    case atStart => exact ⟨m.l.length + 1, m.l, c, 0, rfl, rfl, rfl, Lib.hid (Nat.lt_succ_of_le (fo_le _)), HR, Lib.hid ⟨HN.out, rfl, rfl⟩, M1, C1, K1⟩
    case round =>
      obtain ⟨j, l', c', z, rfl, rfl, rfl, hj, hF, hlen, hM, hC, hK⟩ := hrel
      clear M1 C1 K1 t0 hsz
      obtain ⟨j, rfl⟩ : ∃ i, j = i + 1 := ⟨j - 1, by have := hj.out; omega⟩
      have hO := openBlock_any hM.out hC.out HP.out (by dsimp only; rw [hlen.out.1, hlen.out.2.1])
      dsimp only at hO
      have HMo := Lib.hid (show foW m.g c.nb wr = fo l' by have := foW_eq hM.out; dsimp only at this; rw [hlen.out.1] at this; exact this)
      have HZ : Hid (∀ b, b = m.g → Fm o c.nb m.g b) := Lib.hid (fun b e => .inr e)
      have HX : Hid (∀ b, b = m.g → X b) := Lib.hid (fun b e => by rw [e]; exact HXg.out)
      by_cases hneg : (obI c'.wear l').1 < 0
      · have hFl := prgF_full (b := l) (j := j) hneg
        rw [hF.out] at hFl
        obtain ⟨r, hr⟩ : ∃ r, obI c'.wear l' = r := ⟨_, rfl⟩
        rw [hr] at hO hneg hFl
        obtain ⟨x, l1⟩ := r
        dsimp only at hO hneg hFl
        have HO := Lib.hid hO
        have HFl := Lib.hid hFl
        have u0 : decide (x < 0) = true := decide_eq_true hneg
        clear hO hFl hr hneg hF
        go_wp2_with fail
        refine HO.out.mono ?_
        rintro r w2 ⟨rfl, hm2, hk2⟩
        have HE : Hid (PrP w X M m o c R (.returned (.tuple #[.int .i64 0, .int .i64 0, .int .i64 40])) w2) := Lib.hid (by
          rw [HFl.out]
          exact ⟨rfl, hm2, hC.out.kp hk2 HX.out (fun b hb e => Hog.out (by rw [← e, ← hlen.out.2.1]; exact hb)), hK.out.trans (hk2.mono HZ.out)⟩)
        clear hm2 hk2
        go_wp2
        rw [Exit.noGoto_ret]
        go_ret3
        exact HE.out
      · obtain ⟨k, l1, hkl⟩ : ∃ (k : Nat) (l1 : List Bk), obI c'.wear l' = ((k : Int), l1) := ⟨(obI c'.wear l').1.toNat, (obI c'.wear l').2, by
          apply Prod.ext
          · dsimp only; omega
          · rfl⟩
        rw [hkl] at hO
        dsimp only at hO
        obtain ⟨g1, g2, g3, g4⟩ := obI_fo _ _ hkl
        have hkn : k < c.nb := by rw [← hlen.out.1]; exact g1
        have hk1 : k < l1.length := by rw [g2]; exact g1
        obtain ⟨y, hy⟩ : ∃ y, l1[k]! = y := ⟨_, rfl⟩
        obtain ⟨E, hE⟩ : ∃ E, pgE c' k y.nx l.length = E := ⟨_, rfl⟩
        have hFl := prgF_ok (b := l) (j := j) hkl hy rfl hE
        rw [hF.out] at hFl
        have HO := Lib.hid hO
        have HFl := Lib.hid hFl
        have HY := Lib.hid hy
        have HK1 := Lib.hid hk1
        have HE0 := Lib.hid (show pgE c' k y.nx n = E by rw [← HL.out]; exact hE)
        have HL1 := Lib.hid (show l1.length = c.nb by rw [g2, hlen.out.1])
        have HFo := Lib.hid (show fo l1 = fo l' from g3)
        have HS1 := Lib.hid g4
        have hnb := hC.out.good.2.1
        have hkn' : (k : Int) < (c.nb : Int) := by omega
        have HCn := Lib.hid hlen.out.2
        have hnb2 : c.nb < 129 := by rw [← hlen.out.2.1]; exact hnb
        have k0 : (0 : Int) ≤ (k : Int) := by omega
        have u0 : decide ((k : Int) < 0) = false := decide_eq_false (by omega)
        clear hO hFl hneg hF hkl hy hE g1 g2 g3 g4 hnb hlen
        go_wp2_with fail
        refine HO.out.mono ?_
        rintro r w2 ⟨rfl, hm2, hk2⟩
        have hC2 := hC.out.kp hk2 HX.out (fun b hb e => Hog.out (by rw [← e, ← HCn.out.1]; exact hb))
        have hK2 := hK.out.trans (hk2.mono HZ.out)
        obtain ⟨d0, d1, -, -, -⟩ := hm2.cells
        dsimp only at d0 d1
        rw [HP.out] at d0
        rw [HL1.out] at d1
        unfold Own.p at d0
        have d3 := (hm2.own.at k HK1.out).2.2.2
        dsimp only at d3
        rw [HY.out] at d3
        have hPg := cprog_any hC2 k y.nx a cap l (HRw.out.kp hK2 (fun b hb => by rcases hb with q | q; exact hC2.inX b (by rw [HCn.out.1]; exact q); exact HX.out b q)) n HL.out
        rw [HE0.out] at hPg
        unfold Own.p at hPg
        have HPg := Lib.hid hPg
        have HM2 := Lib.hid hm2
        have HC2 := Lib.hid hC2
        have HK2 := Lib.hid hK2
        clear hm2 hk2 hC2 hK2 hPg HO hC hK hM
        obtain ⟨p, hpp⟩ : ∃ p, y.nx = p := ⟨_, rfl⟩
        rw [hpp] at d3 HPg HFl
        clear hpp HE0
        go_wp2_with fail
        refine HPg.out.mono ?_
        rintro r w3 ⟨rfl, hc3, hk3⟩
        have hm3 := HM2.out.kp hk3 (by rw [HCn.out.1]; exact HoM.out) (by rw [HCn.out.1]; exact Hog.out)
        have hK3 := HK2.out.trans (hk3.mono (fun b hb => show Fm o c.nb m.g b from .inl (by rw [← HCn.out.1]; exact hb)))
        have hog3 : ¬ o.F (pgC c' k p l).nb m.g := by rw [(pgC_same c' k p l).1, HCn.out.1]; exact Hog.out
        have HM3 := Lib.hid hm3
        have HC3 := Lib.hid hc3
        have HK3 := Lib.hid hK3
        have Hog3 := Lib.hid hog3
        have HFi := Lib.hid (fill_any hm3 hc3 HP.out HXg.out hog3 k HK1.out)
        have HCl := Lib.hid (close_any hm3 k HK1.out y.st y.lv y.wr y.nx HY.out)
        clear hm3 hc3 hk3 hK3 hog3 d0 d1 d3 HPg HM2 HC2 HK2
        by_cases e0 : E = 0
        · rw [if_pos e0] at HFl
          subst e0
          go_wp2_with fail
          refine HFi.out.mono ?_
          rintro r w4 ⟨rfl, hm4, hk4⟩
          have HE : Hid (PrP w X M m o c R (.returned (.tuple #[.int .i64 k, .int .i64 p, .int .i64 0])) w4) := Lib.hid (by
            rw [HFl.out]
            rw [HY.out, (pgC_same c' k p l).2] at hm4
            exact ⟨rfl, hm4, HC3.out.kp hk4 HX.out (fun b hb e => Hog3.out (by rw [← e]; exact hb)), HK3.out.trans (hk4.mono HZ.out)⟩)
          clear hm4 hk4
          go_wp2
          rw [Exit.noGoto_ret]
          go_ret3
          exact HE.out
        rw [if_neg e0] at HFl
        have v0 : (E == 0) = false := beq_eq_false_iff_ne.2 e0
        by_cases e1 : E = 11
        · rw [if_pos e1] at HFl
          subst e1
          go_wp2_with fail
          refine HCl.out.mono ?_
          rintro r w4 ⟨rfl, hm4, hk4⟩
          have HE : Hid (PrP w X M m o c R (.returned (.tuple #[.int .i64 k, .int .i64 p, .int .i64 11])) w4) := Lib.hid (by
            rw [HFl.out]
            exact ⟨rfl, hm4, HC3.out.kp hk4 HX.out (fun b hb e => Hog3.out (by rw [← e]; exact hb)), HK3.out.trans (hk4.mono HZ.out)⟩)
          clear hm4 hk4
          go_wp2
          rw [Exit.noGoto_ret]
          go_ret3
          exact HE.out
        rw [if_neg e1] at HFl
        have v1 : (E == 11) = false := beq_eq_false_iff_ne.2 e1
        by_cases e2 : E = 10
        · rw [if_pos e2] at HFl
          subst e2
          go_wp2_with fail
          refine HCl.out.mono ?_
          rintro r w4 ⟨rfl, hm4, hk4⟩
          have hdec := fo_close HK1.out HS1.out
          rw [HY.out, HFo.out] at hdec
          have HD := Lib.hid hdec
          have HM4 := Lib.hid (show MgAt w4 M { m with l := l1.set k (clsB y) } from hm4)
          have HC4 := Lib.hid (HC3.out.kp hk4 HX.out (fun b hb e => Hog3.out (by rw [← e]; exact hb)))
          have HK4 := Lib.hid (HK3.out.trans (hk4.mono HZ.out))
          have HL4 : Hid ((l1.set k (clsB y)).length = c.nb ∧ (pgC c' k p l).nb = c.nb ∧ (pgC c' k p l).np = c.np) := Lib.hid ⟨by rw [List.length_set, HL1.out], by rw [(pgC_same c' k p l).1, HCn.out.1], by rw [(pgC_same c' k p l).2, HCn.out.2]⟩
          have HMn := Lib.hid (show foW m.g c.nb w4 = fo (l1.set k (clsB y)) by have := foW_eq HM4.out; dsimp only at this; rw [HL4.out.1] at this; exact this)
          clear hm4 hk4 hdec
          go_wp2_with fail
          go_roundw
          case rel =>
            rw [T9.out]
            repeat apply Exists.intro
            refine ⟨?_, rfl⟩
            exact ⟨j, l1.set k (clsB y), pgC c' k p l, 10, rfl, rfl, rfl, Lib.hid (by have := HD.out; have := hj.out; omega), Lib.hid HFl.out.symm, HL4, HM4, HC4, HK4⟩
          case measure =>
            rw [HMn.out, HMo.out]
            exact HD.out
        · rw [if_neg e2] at HFl
          have v2 : (E == 10) = false := beq_eq_false_iff_ne.2 e2
          have HE : Hid (PrP w X M m o c R (.returned (.tuple #[.int .i64 0, .int .i64 0, .int .i64 E])) w3) := Lib.hid (by
            rw [HFl.out]
            exact ⟨rfl, HM3.out, HC3.out, HK3.out⟩)
          go_wp2
          rw [Exit.noGoto_ret]
          go_ret3
          exact HE.out

end Go.Proofs.YtbfifppdcmimaaaGreat
