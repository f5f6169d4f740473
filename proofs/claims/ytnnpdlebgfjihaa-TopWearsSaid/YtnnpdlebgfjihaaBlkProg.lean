/-
  A page programmed by a manager in a block newly opened. Nothing of one statement alone stands here.
-/
import Derived.Test.YtnnpdlebgfjihaaBlkFill
namespace Go.Proofs.Ytnnpdlebgfjihaa
open Go.RowKit Crcm Gcm Go.ChangeShapes

theorem prC_same (c : Ch) (k p : Nat) (l : List Int) : (prC c k p l).nb = c.nb ∧ (prC c k p l).np = c.np := by
  unfold prC endC stC
  (repeat' split) <;> exact ⟨rfl, rfl⟩
theorem one_wrap : wrap64 (0 + 1) = 1 := IntWalk.wrap64_in _ ⟨by omega, by omega⟩

set_option maxRecDepth 100000 in
set_option maxHeartbeats 2000000 in
theorem bprogram_new {w : World} {X : Nat → Prop} {M : Nat} {m : Mg} {o : Own} {c : Ch} (h : MgAt w M m) (hc : ChAt w X o c) (hp : m.cp = o.p) (hn : m.l.length = c.nb) (hu : c.up = true) (hXg : X m.g) (hoM : ¬ o.F c.nb M) (hog : ¬ o.F c.nb m.g)
    (hno : ∀ j, j < c.nb → (m.l[j]!.st == 1) = false) (q : Nat) (hq : ob c.wear m.l c.nb = q) (hE : prE c q 0 (c.sz + 32) = 0) (hk : endE (fnd c.fl c.since).kind = 0) (hnp : wrap64 (0 + 1) ≠ c.np)
    (a : Option Addr) (n cap : Nat) (l : List Int) (hr : RwX w X a l) (hl : l.length = n) (hnn : n = c.sz + 32) :
    Calls Try.prog 9 #[.pointer (some ⟨M, 0, none⟩), .slice a n cap] w fun e w' => e = .returned (.tuple #[.int .i64 q, .int .i64 0, .int .i64 0]) ∧ MgAt w' M { m with l := m.l.set q ⟨1, 1, 0, 1⟩ } ∧ ChAt w' X o (prC c q 0 l) ∧ Kp X w w' := by
  obtain ⟨c0, c1, -, -, -⟩ := h.cells
  have hM := h.blk.lt
  have hnb := hc.good.2.1
  have hqn : q < c.nb := by have := ob_lt c.wear m.l c.nb; omega
  have hqm : q < m.l.length := by rw [hn]; exact hqn
  have HUp := Lib.hid (bup_yes h hc hp hu)
  have HGe := Lib.hid (geo_any hc)
  have hsz : wrap64 ((c.sz : Int) + 32) = n := by
    have := hc.good.2.2.2.2
    rw [IntWalk.wrap64_in _ ⟨by omega, by omega⟩]
    omega
  have t0 : ((n : Int) == wrap64 ((c.sz : Int) + 32)) = true := by rw [hsz]; simp
  have HO := Lib.hid (fun W (hb : Below w.heap.size w W) => openBlock_new (h.below hb) (hc.below hb) hp hn hno q hq)
  have gf := gfield2
  rw [hp] at c0
  have HH := Lib.hid h
  have HCh := Lib.hid hc
  have HP := Lib.hid hp
  have HR := Lib.hid hr
  have HL := Lib.hid hl
  have HNN := Lib.hid hnn
  have HM := Lib.hid hM
  clear hnn hl hr
  go_enter Try.func9, Try.ntmps9
  go_wp2_with fail
  go_step3
  go_wp2_with fail
  refine HUp.out.mono ?_
  rintro r w' ⟨rfl, rfl⟩
  unfold Own.p at c0 HGe
  go_wp2_with fail
  refine HGe.out.mono ?_
  rintro r w1 ⟨rfl, hb1⟩
  have B1 := Lib.hid hb1
  clear hb1
  go_wp2_with fail
  go_step3
  go_wp2_with fail
  go_loopw [10] (fun s wr => s = .int .i64 0 ∧ Hid (w1 = wr)) (fun _ _ => 0)
  case atStart => exact ⟨rfl, Lib.hid rfl⟩
  case round =>
    obtain ⟨rfl, hw⟩ := hrel
    have hw' := hw.out
    clear hw
    subst hw'
    have HO1 := Lib.hid (HO.out w1 B1.out)
    clear HO c0 c1
    go_wp2_with fail
    refine HO1.out.mono ?_
    rintro r w2 ⟨rfl, hm2, hk2⟩
    have hne := HH.out.ne
    have C2 := (HCh.out.below B1.out).kp hk2 (fun b hb => by rw [hb]; exact hXg) (fun b hb e => hog (by rw [← e]; exact hb))
    have R2 := HR.out.kp ((Kp.of_below (F := X) B1.out).trans (hk2.mono (fun b hb => by rw [hb]; exact hXg))) (fun b hb => hb)
    have P2 : Hid (Calls Try.prog 38 #[.pointer (some ⟨o.bc, 0, none⟩), .int .i64 q, .int .i64 0, .slice a n cap] w2 fun e w' => e = .returned (.int .i64 0) ∧ ChAt w' X o (prC c q 0 l) ∧ Kp (o.F c.nb) w2 w') := Lib.hid (by
      have := program_yes C2 q 0 a cap l R2 (by rw [HL.out, HNN.out]) hE
      rw [hk] at this
      rw [HNN.out]
      exact this)
    obtain ⟨d0, d1, -, -, -⟩ := hm2.cells
    have d3 := (hm2.own.at q (by simpa using hqm)).2.2.2
    dsimp only at d0 d1 d3
    rw [set_getB _ _ _ _ hqm, if_pos rfl] at d3
    rw [List.length_set, hn] at d1
    rw [hp] at d0
    unfold Own.p at d0
    have K2 := Lib.hid ((Kp.of_below (F := X) B1.out).trans (hk2.mono (fun b hb => by rw [hb]; exact hXg)))
    have M2 := Lib.hid hm2
    clear hm2 hk2 C2 R2
    go_wp2_with fail
    refine P2.out.mono ?_
    rintro r w3 ⟨rfl, hc3, hk3⟩
    have M3 := M2.out.kp hk3 hoM hog
    have F3 := Lib.hid (fill_on M3 hc3 hp hXg (by rw [(prC_same c q 0 l).1]; exact hog) q (by dsimp only; rw [List.length_set]; exact hqm) 1 0 0 0 (by dsimp only; rw [set_getB _ _ _ _ hqm, if_pos rfl]) (by rw [one_wrap]; unfold I64; omega) (by rw [one_wrap]; unfold I64; omega) (by rw [(prC_same c q 0 l).2]; exact hnp))
    have K3 := Lib.hid (K2.out.trans (hk3.mono (fun b hb => HCh.out.inX b hb)))
    have HC3 := Lib.hid hc3
    clear hc3 hk3 M3 d0 d1 d3
    go_wp2_with fail
    refine F3.out.mono ?_
    rintro r w4 ⟨rfl, hm4, hk4⟩
    rw [one_wrap] at hm4
    rw [List.set_set] at hm4
    have M4 := Lib.hid hm4
    have K4 := Lib.hid (K3.out.trans (hk4.mono (fun b hb => by rw [hb]; exact hXg)))
    have C4 := Lib.hid (HC3.out.kp hk4 (fun b hb => by rw [hb]; exact hXg) (fun b hb e => hog (by rw [← e]; rw [(prC_same c q 0 l).1] at hb; exact hb)))
    clear hm4 hk4
    go_wp2
    rw [Exit.noGoto_ret]
    go_ret3
    exact ⟨rfl, M4.out, C4.out, K4.out⟩
end Go.Proofs.Ytnnpdlebgfjihaa
