/-
  An operation done on both chips of no faults: both answer the same and are alike behind it (made by gen_ldplays.py).
-/
import Derived.Test.YtiaaeiefgnoiaaaRxBoth
import Derived.Test.YtiaaeiefgnoiaaaNandFew
import Derived.Test.YtiaaeiefgnoiaaaTagNum
import Derived.Deep.RegionHeld3
namespace Go.Proofs.Ytiaaeiefgnoiaaa
open Go.RowKit Crcm Tagm Go.ChangeShapes

/-- what stands while an operation is done on both: the box, the chips -/
structure TxS (w0 : World) (X : Nat → Prop) (o : Own) (ro : Rb) (pb : Nat) (cs : Array Value) (c : Ch) (r : Rx) (w : World) : Prop where
  box : Blk w pb 30 cs
  nx : ¬ X pb
  a : ChAt w X o c
  b : RxAt w X ro r
  dis : ∀ b, o.F c.nb b → ¬ ro.F b
  kp : Kp X w0 w
theorem TxS.own {w0 w w' : World} {X : Nat → Prop} {o : Own} {ro : Rb} {pb : Nat} {cs : Array Value} {c c1 : Ch} {r : Rx} (h : TxS w0 X o ro pb cs c r w) (hc : ChAt w' X o c1) (hn : c1.nb = c.nb) (hk : Kp (o.F c.nb) w w') : TxS w0 X o ro pb cs c1 r w' :=
  ⟨h.box.kp hk (fun g => h.nx (h.a.inX _ g)), h.nx, hc, h.b.kp hk h.a.inX (fun b hb g => h.dis b g hb), by rw [hn]; exact h.dis, h.kp.trans (hk.mono h.a.inX)⟩
theorem TxS.ref {w0 w w' : World} {X : Nat → Prop} {o : Own} {ro : Rb} {pb : Nat} {cs : Array Value} {c : Ch} {r r1 : Rx} (h : TxS w0 X o ro pb cs c r w) (hb : RxAt w' X ro r1) (hk : Kp ro.F w w') : TxS w0 X o ro pb cs c r1 w' :=
  ⟨h.box.kp hk (fun g => h.nx (hb.inX _ g)), h.nx, h.a.kp hk hb.inX h.dis, hb, h.dis, h.kp.trans (hk.mono hb.inX)⟩
theorem TxS.below {w0 w w' : World} {X : Nat → Prop} {o : Own} {ro : Rb} {pb : Nat} {cs : Array Value} {c : Ch} {r : Rx} (h : TxS w0 X o ro pb cs c r w) (hb : Below w.heap.size w w') : TxS w0 X o ro pb cs c r w' :=
  ⟨h.box.below hb h.box.lt, h.nx, h.a.below hb, h.b.below hb, h.dis, h.kp.trans (Kp.of_below hb)⟩
/-- both calls of an operation -/
theorem Bo.two {w0 : World} {X : Nat → Prop} {o : Own} {ro : Rb} {pb : Nat} {cs : Array Value} {c : Ch} {r : Rx} {fi fd : Nat} {args : List Value} (h : Bo X o c ro r fi fd args w0) : ∃ (E : Int) (c1 : Ch) (r1 : Rx), LkS c1 r1 ∧
    (∀ w, TxS w0 X o ro pb cs c r w → Calls Try.prog fi (o.p :: args).toArray w fun e w' => e = .returned (.int .i64 E) ∧ TxS w0 X o ro pb cs c1 r w') ∧
    (∀ w, TxS w0 X o ro pb cs c1 r w → Calls Try.prog fd (.pointer (some ⟨ro.g, 0, none⟩) :: args).toArray w fun e w' => e = .returned (.int .i64 E) ∧ TxS w0 X o ro pb cs c1 r1 w') := by
  obtain ⟨E, c1, r1, h1, h2, h3, h4⟩ := h
  refine ⟨E, c1, r1, h1, fun w hS => (h3 w hS.a hS.kp).mono ?_, fun w hS => (h4 w hS.b hS.kp).mono ?_⟩
  · rintro e w' ⟨rfl, hc, hk⟩
    exact ⟨rfl, hS.own hc h2 hk⟩
  · rintro e w' ⟨rfl, hb, hk⟩
    exact ⟨rfl, hS.ref hb hk⟩
/-- both read -/
theorem two_read {w0 : World} {X : Nat → Prop} {o : Own} {ro : Rb} {pb : Nat} {cs : Array Value} {c : Ch} {r : Rx} (h : Lk c r) (hl : ∀ k i l, k < c.nb → i < c.np → c.pg k i = some l → l.length = c.sz + 32) (k page : Int) : ∃ (E : Int) (l : List Int) (c1 : Ch) (r1 : Rx), LkS c1 r1 ∧
    (∀ w, TxS w0 X o ro pb cs c r w → Calls Try.prog 16 #[o.p, .int .i64 k, .int .i64 page] w fun e w' => (∃ a cc, e = .returned (.tuple #[.slice a l.length cc, .int .i64 E]) ∧ l.length ≤ cc ∧ RwX w' X a l) ∧ TxS w0 X o ro pb cs c1 r w') ∧
    (∀ w, TxS w0 X o ro pb cs c1 r w → Calls Try.prog 41 #[.pointer (some ⟨ro.g, 0, none⟩), .int .i64 k, .int .i64 page] w fun e w' => (∃ a cc, e = .returned (.tuple #[.slice a l.length cc, .int .i64 E]) ∧ l.length ≤ cc ∧ Rw w' a l) ∧ TxS w0 X o ro pb cs c1 r1 w' ∧ Kp X w w') := by
  by_cases g : rpE c k page = 0
  · obtain ⟨g3, g4, g5⟩ := rpE_zero g
    obtain ⟨-, g6, g7⟩ := reE_zero g3
    obtain ⟨n, rfl⟩ : ∃ n : Nat, k = n := ⟨k.toNat, by omega⟩
    obtain ⟨q, rfl⟩ : ∃ n : Nat, page = n := ⟨page.toNat, by omega⟩
    have hn : n < c.nb := by omega
    have hq : q < c.np := by omega
    have hlen : (rdL c n q).length = c.sz + 32 := by
      unfold rdL
      cases hp : c.pg n q with
      | none => simp
      | some l => exact hl n q l hn hq hp
    refine ⟨0, rdL c n q, { c with reads := wrap64 (c.reads + 1) }, { r with rd := wrap64 (r.rd + 1) }, ⟨h.s.geo, h.s.pg, h.s.bad, h.s.wr, h.s.up, h.s.st, by show wrap64 (r.rd + 1) = wrap64 (c.reads + 1); rw [h.s.rd]⟩, fun w hS => ?_, fun w hS => ?_⟩
    · refine (read_yes hS.a n q g).mono ?_
      rintro e w' ⟨⟨gg, cc, rfl, h1, h2, h3, h4⟩, h5, h6⟩
      refine ⟨⟨_, cc, by rw [h4], by rw [h4]; exact h1, h3, fun b off s e _ gx => ?_⟩, hS.own h5 rfl h6⟩
      injection e with e
      injection e with e1 e2 e3
      have := hS.a.old _ gx
      omega
    · have g' := g
      rw [← h.place] at g'
      have hrl := h.rdL hn hq (fun l hp => hl n q l hn hq hp)
      refine (rxread_yes hS.b n q g').mono ?_
      rintro e w' ⟨⟨gg, cc, rfl, h1, h3⟩, h5, h6⟩
      rw [hrl] at h3
      rw [h.s.geo.2.2] at h1
      exact ⟨⟨_, cc, by rw [hlen, h.s.geo.2.2], by rw [hlen]; exact h1, h3⟩, hS.ref h5 h6, h6.mono hS.b.inX⟩
  · refine ⟨rpE c k page, [], c, r, h.s, fun w hS => ?_, fun w hS => ?_⟩
    · refine (read_no hS.a k page g).mono ?_
      rintro e w' ⟨rfl, rfl⟩
      exact ⟨⟨none, 0, rfl, Nat.le_refl _, RwX.nil⟩, hS⟩
    · have g' := g
      rw [← h.place] at g'
      refine (rxread_no hS.b k page g').mono ?_
      rintro e w' ⟨rfl, rfl⟩
      exact ⟨⟨none, 0, by rw [h.place]; rfl, Nat.le_refl _, Rw.nil⟩, hS, Kp.refl _ _⟩

/-- what an operation on both comes to -/
def PlX (w : World) (X : Nat → Prop) (o : Own) (ro : Rb) (e : Ending) (w' : World) : Prop :=
  e = .returned (.bool true) ∧ ∃ c1 r1, ChAt w' X o c1 ∧ RxAt w' X ro r1 ∧ LkS c1 r1 ∧ Kp X w w'

set_option maxRecDepth 100000 in
set_option maxHeartbeats 8000000 in
theorem playsx_any {w : World} {X : Nat → Prop} {o : Own} {c : Ch} {ro : Rb} {r : Rx} (ha : ChAt w X o c) (hb' : RxAt w X ro r) (hdis : ∀ b, o.F c.nb b → ¬ ro.F b) (hlk : Lk c r) (y : Oz) (A3 : Option Addr) (m3 c3 : Nat) (A4 : Option Addr) (m4 c4 : Nat) (hb : RwX w X A3 y.b) (hl3 : y.b.length = m3) (hf : FlAt w X (.slice A4 m4 c4) y.fl) (hl4 : y.fl.length = m4) (hs : Sm 9000 y) :
    Calls Try.prog 13 #[o.p, .pointer (some ⟨ro.g, 0, none⟩), .agg #[.int .i64 y.kind, .int .i64 y.block, .int .i64 y.page, .slice A3 m3 c3, .slice A4 m4 c4]] w (PlX w X o ro) := by
  obtain ⟨kd, bl, pg, bb, fl⟩ := y
  dsimp only at hb hl3 hf hl4 ⊢
  have BX := Blk.new w 30 #[.int .i64 kd, .int .i64 bl, .int .i64 pg, .slice A3 m3 c3, .slice A4 m4 c4]
  have hbl := (Below.refl w.heap.size w).alloc (Nat.le_refl _) (.cells #[.int .i64 kd, .int .i64 bl, .int .i64 pg, .slice A3 m3 c3, .slice A4 m4 c4] 30)
  have HS0 : Hid (TxS w X o ro w.heap.size #[.int .i64 kd, .int .i64 bl, .int .i64 pg, .slice A3 m3 c3, .slice A4 m4 c4] c r (w.alloc (.cells #[.int .i64 kd, .int .i64 bl, .int .i64 pg, .slice A3 m3 c3, .slice A4 m4 c4] 30))) :=
    Lib.hid ⟨BX, fun g => by have := ha.old _ g; omega, ha.below hbl, hb'.below hbl, hdis, Kp.of_below hbl⟩
  have HFin : Hid (∀ (cs : Array Value) (pb : Nat) (c1 : Ch) (r1 : Rx) (w' : World), TxS w X o ro pb cs c1 r1 w' → LkS c1 r1 → PlX w X o ro (.returned (.bool true)) w') := Lib.hid (fun cs pb c1 r1 w' hS hl => ⟨rfl, c1, r1, hS.a, hS.b, hl, hS.kp⟩)
  have HLen : Hid (∀ k i l, k < c.nb → i < c.np → c.pg k i = some l → l.length = c.sz + 32) := Lib.hid (fun k i l hk hi hl => ha.len hk hi hl)
  have HLk := Lib.hid hlk
  have HB := Lib.hid hb
  have HL3 := Lib.hid hl3
  have HF := Lib.hid hf
  have HL4 := Lib.hid hl4
  have HSm := Lib.hid hs
  have hop : o.p = .pointer (some ⟨o.bc, 0, none⟩) := rfl
  clear ha hb' hdis hlk hb hl3 hf hl4 hs BX hbl
  rw [hop]
  clear hop
  go_enter Try.func13, Try.ntmps13
  go_upto_region 1 with (fail)
  generalize (w.alloc (.cells #[.int .i64 kd, .int .i64 bl, .int .i64 pg, .slice A3 m3 c3, .slice A4 m4 c4] 30)) = W at HS0 ⊢
  generalize w.heap.size = pb at HS0 ⊢
  have q0 : W.cell? ⟨pb, 0, none⟩ = some (.int .i64 kd) := HS0.out.box.cell 0
  have q1 : W.cell? ⟨pb, 1, none⟩ = some (.int .i64 bl) := HS0.out.box.cell 1
  have q2 : W.cell? ⟨pb, 2, none⟩ = some (.int .i64 pg) := HS0.out.box.cell 2
  have q3 : W.cell? ⟨pb, 3, none⟩ = some (.slice A3 m3 c3) := HS0.out.box.cell 3
  have q4 : W.cell? ⟨pb, 4, none⟩ = some (.slice A4 m4 c4) := HS0.out.box.cell 4
  by_cases k1 : kd = 1
  · have t1 : (kd == 1) = true := beq_iff_eq.2 k1
    obtain ⟨E, c1, r1, hle, hO, hR⟩ := (bprog HLk.out w bl pg A3 m3 c3 bb HB.out HL3.out : Bo X o c ro r _ _ _ w).two (pb := pb) (cs := #[.int .i64 kd, .int .i64 bl, .int .i64 pg, .slice A3 m3 c3, .slice A4 m4 c4])
    have HLE := Lib.hid hle
    have HO := Lib.hid hO
    have HR := Lib.hid hR
    have tE : (E == E) = true := beq_self_eq_true _
    have hop : o.p = .pointer (some ⟨o.bc, 0, none⟩) := rfl
    rw [hop] at HO
    clear hop hle hO hR k1
    go_upto_region 3 with (fail)
    refine wp_region_held_drew (S := fun w' => Blk w' pb 30 #[.int .i64 kd, .int .i64 bl, .int .i64 pg, .slice A3 m3 c3, .slice A4 m4 c4]) (by kernel_rfl) (HS0.out.below (Below.refl _ _).drew).box (fun hHeld => ?_)
    have hS1 := HS0.out.below (Below.refl _ _).drew
    refine wpAnyH_take (i := 0) (v := .pointer (some ⟨o.bc, 0, none⟩)) rfl (by kernel_rfl) (by kernel_rfl) (by kernel_rfl) (fun _ _ _ h => h) (Or.inl ⟨by kernel_rfl, ?_⟩) hHeld ?_
    · intro w' hSw
      have z0 := hSw.cell 1
      have z1 := hSw.cell 2
      have z2 := hSw.cell 3
      have z3 := hSw.cell 4
      simp at z0 z1 z2 z3
      go_simp
    refine wpAnyH_take (i := 1) (v := .pointer (some ⟨pb, 1, none⟩)) rfl (by kernel_rfl) (by kernel_rfl) (by kernel_rfl) (fun _ _ _ h => h) (Or.inl ⟨by kernel_rfl, ?_⟩) hHeld ?_
    · intro w' hSw
      have z0 := hSw.cell 1
      have z1 := hSw.cell 2
      have z2 := hSw.cell 3
      have z3 := hSw.cell 4
      simp at z0 z1 z2 z3
      go_simp
    refine wpAnyH_take (i := 2) (v := .int .i64 bl) rfl (by kernel_rfl) (by kernel_rfl) (by kernel_rfl) (fun _ _ _ h => h) (Or.inl ⟨by kernel_rfl, ?_⟩) hHeld ?_
    · intro w' hSw
      have z0 := hSw.cell 1
      have z1 := hSw.cell 2
      have z2 := hSw.cell 3
      have z3 := hSw.cell 4
      simp at z0 z1 z2 z3
      go_simp
    refine wpAnyH_take (i := 3) (v := .pointer (some ⟨pb, 2, none⟩)) rfl (by kernel_rfl) (by kernel_rfl) (by kernel_rfl) (fun _ _ _ h => h) (Or.inl ⟨by kernel_rfl, ?_⟩) hHeld ?_
    · intro w' hSw
      have z0 := hSw.cell 1
      have z1 := hSw.cell 2
      have z2 := hSw.cell 3
      have z3 := hSw.cell 4
      simp at z0 z1 z2 z3
      go_simp
    refine wpAnyH_take (i := 4) (v := .int .i64 pg) rfl (by kernel_rfl) (by kernel_rfl) (by kernel_rfl) (fun _ _ _ h => h) (Or.inl ⟨by kernel_rfl, ?_⟩) hHeld ?_
    · intro w' hSw
      have z0 := hSw.cell 1
      have z1 := hSw.cell 2
      have z2 := hSw.cell 3
      have z3 := hSw.cell 4
      simp at z0 z1 z2 z3
      go_simp
    refine wpAnyH_take (i := 5) (v := .pointer (some ⟨pb, 3, none⟩)) rfl (by kernel_rfl) (by kernel_rfl) (by kernel_rfl) (fun _ _ _ h => h) (Or.inl ⟨by kernel_rfl, ?_⟩) hHeld ?_
    · intro w' hSw
      have z0 := hSw.cell 1
      have z1 := hSw.cell 2
      have z2 := hSw.cell 3
      have z3 := hSw.cell 4
      simp at z0 z1 z2 z3
      go_simp
    refine wpAnyH_take (i := 6) (v := .slice A3 m3 c3) rfl (by kernel_rfl) (by kernel_rfl) (by kernel_rfl) (fun _ _ _ h => h) (Or.inl ⟨by kernel_rfl, ?_⟩) hHeld ?_
    · intro w' hSw
      have z0 := hSw.cell 1
      have z1 := hSw.cell 2
      have z2 := hSw.cell 3
      have z3 := hSw.cell 4
      simp at z0 z1 z2 z3
      go_simp
    refine wpAnyH_take (i := 8) (v := .pointer (some ⟨ro.g, 0, none⟩)) rfl (by kernel_rfl) (by kernel_rfl) (by kernel_rfl) (fun _ _ _ h => h) (Or.inl ⟨by kernel_rfl, ?_⟩) hHeld ?_
    · intro w' hSw
      have z0 := hSw.cell 1
      have z1 := hSw.cell 2
      have z2 := hSw.cell 3
      have z3 := hSw.cell 4
      simp at z0 z1 z2 z3
      go_simp
    refine wpAnyH_take (i := 9) (v := .pointer (some ⟨pb, 1, none⟩)) rfl (by kernel_rfl) (by kernel_rfl) (by kernel_rfl) (fun _ _ _ h => h) (Or.inl ⟨by kernel_rfl, ?_⟩) hHeld ?_
    · intro w' hSw
      have z0 := hSw.cell 1
      have z1 := hSw.cell 2
      have z2 := hSw.cell 3
      have z3 := hSw.cell 4
      simp at z0 z1 z2 z3
      go_simp
    refine wpAnyH_take (i := 10) (v := .int .i64 bl) rfl (by kernel_rfl) (by kernel_rfl) (by kernel_rfl) (fun _ _ _ h => h) (Or.inl ⟨by kernel_rfl, ?_⟩) hHeld ?_
    · intro w' hSw
      have z0 := hSw.cell 1
      have z1 := hSw.cell 2
      have z2 := hSw.cell 3
      have z3 := hSw.cell 4
      simp at z0 z1 z2 z3
      go_simp
    refine wpAnyH_take (i := 11) (v := .pointer (some ⟨pb, 2, none⟩)) rfl (by kernel_rfl) (by kernel_rfl) (by kernel_rfl) (fun _ _ _ h => h) (Or.inl ⟨by kernel_rfl, ?_⟩) hHeld ?_
    · intro w' hSw
      have z0 := hSw.cell 1
      have z1 := hSw.cell 2
      have z2 := hSw.cell 3
      have z3 := hSw.cell 4
      simp at z0 z1 z2 z3
      go_simp
    refine wpAnyH_take (i := 12) (v := .int .i64 pg) rfl (by kernel_rfl) (by kernel_rfl) (by kernel_rfl) (fun _ _ _ h => h) (Or.inl ⟨by kernel_rfl, ?_⟩) hHeld ?_
    · intro w' hSw
      have z0 := hSw.cell 1
      have z1 := hSw.cell 2
      have z2 := hSw.cell 3
      have z3 := hSw.cell 4
      simp at z0 z1 z2 z3
      go_simp
    refine wpAnyH_take (i := 13) (v := .pointer (some ⟨pb, 3, none⟩)) rfl (by kernel_rfl) (by kernel_rfl) (by kernel_rfl) (fun _ _ _ h => h) (Or.inl ⟨by kernel_rfl, ?_⟩) hHeld ?_
    · intro w' hSw
      have z0 := hSw.cell 1
      have z1 := hSw.cell 2
      have z2 := hSw.cell 3
      have z3 := hSw.cell 4
      simp at z0 z1 z2 z3
      go_simp
    refine wpAnyH_take (i := 14) (v := .slice A3 m3 c3) rfl (by kernel_rfl) (by kernel_rfl) (by kernel_rfl) (fun _ _ _ h => h) (Or.inl ⟨by kernel_rfl, ?_⟩) hHeld ?_
    · intro w' hSw
      have z0 := hSw.cell 1
      have z1 := hSw.cell 2
      have z2 := hSw.cell 3
      have z3 := hSw.cell 4
      simp at z0 z1 z2 z3
      go_simp
    try simp only [Act.put, List.setIfInBounds_toArray]
    refine wpAnyH_ready (rs := [7]) (by kernel_rfl) (by simp) ?_
    refine AllReadyH.cons rfl (fun K hK => ?_) AllReadyH.nil
    · go_simp
      refine (HO.out _ hS1).mono ?_
      rintro e w2 ⟨rfl, hS2⟩
      refine hK.out _ _ hS2.box (fun hHeld2 => ?_)
      try simp only [Act.put, List.setIfInBounds_toArray, List.set]
      refine wpAnyH_ready (rs := [15]) (by kernel_rfl) (by simp) ?_
      refine AllReadyH.cons rfl (fun K hK => ?_) AllReadyH.nil
      go_simp
      refine (HR.out _ hS2).mono ?_
      rintro e w3 ⟨rfl, hS3⟩
      have HS3 := Lib.hid hS3
      refine hK.out _ _ hS3.box (fun hHeld3 => ?_)
      try simp only [Act.put, List.setIfInBounds_toArray, List.set]
      refine wpAnyH_ready (rs := [16]) (by kernel_rfl) (by simp) ?_
      refine AllReadyH.cons rfl (fun K hK => ?_) AllReadyH.nil
      go_simp
      refine hK.out _ _ hHeld3 (fun _ => ?_)
      try simp only [Act.put, List.setIfInBounds_toArray]
      refine wpAnyH_ready (rs := [17]) (by kernel_rfl) (by simp) ?_
      refine AllReadyH.cons rfl (fun K hK => ?_) AllReadyH.nil
      go_simp
      refine hK.out _ _ hHeld3 (fun _ => ?_)
      refine wpAnyH_done (by kernel_rfl) ?_ _
      clear hHeld hHeld2 hHeld3 hS1 hS2 hS3
      go_wp2
      go_ret
      exact HFin.out _ _ _ _ _ HS3.out HLE.out
  have t1 : (kd == 1) = false := beq_eq_false_iff_ne.2 k1
  by_cases k2 : kd = 2
  · have t2 : (kd == 2) = true := beq_iff_eq.2 k2
    obtain ⟨E, c1, r1, hle, hO, hR⟩ := (berase HLk.out w bl : Bo X o c ro r _ _ _ w).two (pb := pb) (cs := #[.int .i64 kd, .int .i64 bl, .int .i64 pg, .slice A3 m3 c3, .slice A4 m4 c4])
    have HLE := Lib.hid hle
    have HO := Lib.hid hO
    have HR := Lib.hid hR
    have tE : (E == E) = true := beq_self_eq_true _
    have hop : o.p = .pointer (some ⟨o.bc, 0, none⟩) := rfl
    rw [hop] at HO
    clear hop hle hO hR k2
    go_upto_region 5 with (fail)
    refine wp_region_held_drew (S := fun w' => Blk w' pb 30 #[.int .i64 kd, .int .i64 bl, .int .i64 pg, .slice A3 m3 c3, .slice A4 m4 c4]) (by kernel_rfl) (HS0.out.below (Below.refl _ _).drew).box (fun hHeld => ?_)
    have hS1 := HS0.out.below (Below.refl _ _).drew
    refine wpAnyH_take (i := 0) (v := .pointer (some ⟨o.bc, 0, none⟩)) rfl (by kernel_rfl) (by kernel_rfl) (by kernel_rfl) (fun _ _ _ h => h) (Or.inl ⟨by kernel_rfl, ?_⟩) hHeld ?_
    · intro w' hSw
      have z0 := hSw.cell 1
      have z1 := hSw.cell 2
      have z2 := hSw.cell 3
      have z3 := hSw.cell 4
      simp at z0 z1 z2 z3
      go_simp
    refine wpAnyH_take (i := 1) (v := .pointer (some ⟨pb, 1, none⟩)) rfl (by kernel_rfl) (by kernel_rfl) (by kernel_rfl) (fun _ _ _ h => h) (Or.inl ⟨by kernel_rfl, ?_⟩) hHeld ?_
    · intro w' hSw
      have z0 := hSw.cell 1
      have z1 := hSw.cell 2
      have z2 := hSw.cell 3
      have z3 := hSw.cell 4
      simp at z0 z1 z2 z3
      go_simp
    refine wpAnyH_take (i := 2) (v := .int .i64 bl) rfl (by kernel_rfl) (by kernel_rfl) (by kernel_rfl) (fun _ _ _ h => h) (Or.inl ⟨by kernel_rfl, ?_⟩) hHeld ?_
    · intro w' hSw
      have z0 := hSw.cell 1
      have z1 := hSw.cell 2
      have z2 := hSw.cell 3
      have z3 := hSw.cell 4
      simp at z0 z1 z2 z3
      go_simp
    refine wpAnyH_take (i := 4) (v := .pointer (some ⟨ro.g, 0, none⟩)) rfl (by kernel_rfl) (by kernel_rfl) (by kernel_rfl) (fun _ _ _ h => h) (Or.inl ⟨by kernel_rfl, ?_⟩) hHeld ?_
    · intro w' hSw
      have z0 := hSw.cell 1
      have z1 := hSw.cell 2
      have z2 := hSw.cell 3
      have z3 := hSw.cell 4
      simp at z0 z1 z2 z3
      go_simp
    refine wpAnyH_take (i := 5) (v := .pointer (some ⟨pb, 1, none⟩)) rfl (by kernel_rfl) (by kernel_rfl) (by kernel_rfl) (fun _ _ _ h => h) (Or.inl ⟨by kernel_rfl, ?_⟩) hHeld ?_
    · intro w' hSw
      have z0 := hSw.cell 1
      have z1 := hSw.cell 2
      have z2 := hSw.cell 3
      have z3 := hSw.cell 4
      simp at z0 z1 z2 z3
      go_simp
    refine wpAnyH_take (i := 6) (v := .int .i64 bl) rfl (by kernel_rfl) (by kernel_rfl) (by kernel_rfl) (fun _ _ _ h => h) (Or.inl ⟨by kernel_rfl, ?_⟩) hHeld ?_
    · intro w' hSw
      have z0 := hSw.cell 1
      have z1 := hSw.cell 2
      have z2 := hSw.cell 3
      have z3 := hSw.cell 4
      simp at z0 z1 z2 z3
      go_simp
    try simp only [Act.put, List.setIfInBounds_toArray]
    refine wpAnyH_ready (rs := [3]) (by kernel_rfl) (by simp) ?_
    refine AllReadyH.cons rfl (fun K hK => ?_) AllReadyH.nil
    · go_simp
      refine (HO.out _ hS1).mono ?_
      rintro e w2 ⟨rfl, hS2⟩
      refine hK.out _ _ hS2.box (fun hHeld2 => ?_)
      try simp only [Act.put, List.setIfInBounds_toArray, List.set]
      refine wpAnyH_ready (rs := [7]) (by kernel_rfl) (by simp) ?_
      refine AllReadyH.cons rfl (fun K hK => ?_) AllReadyH.nil
      go_simp
      refine (HR.out _ hS2).mono ?_
      rintro e w3 ⟨rfl, hS3⟩
      have HS3 := Lib.hid hS3
      refine hK.out _ _ hS3.box (fun hHeld3 => ?_)
      try simp only [Act.put, List.setIfInBounds_toArray, List.set]
      refine wpAnyH_ready (rs := [8]) (by kernel_rfl) (by simp) ?_
      refine AllReadyH.cons rfl (fun K hK => ?_) AllReadyH.nil
      go_simp
      refine hK.out _ _ hHeld3 (fun _ => ?_)
      try simp only [Act.put, List.setIfInBounds_toArray]
      refine wpAnyH_ready (rs := [9]) (by kernel_rfl) (by simp) ?_
      refine AllReadyH.cons rfl (fun K hK => ?_) AllReadyH.nil
      go_simp
      refine hK.out _ _ hHeld3 (fun _ => ?_)
      refine wpAnyH_done (by kernel_rfl) ?_ _
      clear hHeld hHeld2 hHeld3 hS1 hS2 hS3
      go_wp2
      go_ret
      exact HFin.out _ _ _ _ _ HS3.out HLE.out
  have t2 : (kd == 2) = false := beq_eq_false_iff_ne.2 k2
  by_cases k3 : kd = 3
  · have t3 : (kd == 3) = true := beq_iff_eq.2 k3
    obtain ⟨E, c1, r1, hle, hO, hR⟩ := (bmark HLk.out w bl : Bo X o c ro r _ _ _ w).two (pb := pb) (cs := #[.int .i64 kd, .int .i64 bl, .int .i64 pg, .slice A3 m3 c3, .slice A4 m4 c4])
    have HLE := Lib.hid hle
    have HO := Lib.hid hO
    have HR := Lib.hid hR
    have tE : (E == E) = true := beq_self_eq_true _
    have hop : o.p = .pointer (some ⟨o.bc, 0, none⟩) := rfl
    rw [hop] at HO
    clear hop hle hO hR k3
    go_upto_region 7 with (fail)
    refine wp_region_held_drew (S := fun w' => Blk w' pb 30 #[.int .i64 kd, .int .i64 bl, .int .i64 pg, .slice A3 m3 c3, .slice A4 m4 c4]) (by kernel_rfl) (HS0.out.below (Below.refl _ _).drew).box (fun hHeld => ?_)
    have hS1 := HS0.out.below (Below.refl _ _).drew
    refine wpAnyH_take (i := 0) (v := .pointer (some ⟨o.bc, 0, none⟩)) rfl (by kernel_rfl) (by kernel_rfl) (by kernel_rfl) (fun _ _ _ h => h) (Or.inl ⟨by kernel_rfl, ?_⟩) hHeld ?_
    · intro w' hSw
      have z0 := hSw.cell 1
      have z1 := hSw.cell 2
      have z2 := hSw.cell 3
      have z3 := hSw.cell 4
      simp at z0 z1 z2 z3
      go_simp
    refine wpAnyH_take (i := 1) (v := .pointer (some ⟨pb, 1, none⟩)) rfl (by kernel_rfl) (by kernel_rfl) (by kernel_rfl) (fun _ _ _ h => h) (Or.inl ⟨by kernel_rfl, ?_⟩) hHeld ?_
    · intro w' hSw
      have z0 := hSw.cell 1
      have z1 := hSw.cell 2
      have z2 := hSw.cell 3
      have z3 := hSw.cell 4
      simp at z0 z1 z2 z3
      go_simp
    refine wpAnyH_take (i := 2) (v := .int .i64 bl) rfl (by kernel_rfl) (by kernel_rfl) (by kernel_rfl) (fun _ _ _ h => h) (Or.inl ⟨by kernel_rfl, ?_⟩) hHeld ?_
    · intro w' hSw
      have z0 := hSw.cell 1
      have z1 := hSw.cell 2
      have z2 := hSw.cell 3
      have z3 := hSw.cell 4
      simp at z0 z1 z2 z3
      go_simp
    refine wpAnyH_take (i := 4) (v := .pointer (some ⟨ro.g, 0, none⟩)) rfl (by kernel_rfl) (by kernel_rfl) (by kernel_rfl) (fun _ _ _ h => h) (Or.inl ⟨by kernel_rfl, ?_⟩) hHeld ?_
    · intro w' hSw
      have z0 := hSw.cell 1
      have z1 := hSw.cell 2
      have z2 := hSw.cell 3
      have z3 := hSw.cell 4
      simp at z0 z1 z2 z3
      go_simp
    refine wpAnyH_take (i := 5) (v := .pointer (some ⟨pb, 1, none⟩)) rfl (by kernel_rfl) (by kernel_rfl) (by kernel_rfl) (fun _ _ _ h => h) (Or.inl ⟨by kernel_rfl, ?_⟩) hHeld ?_
    · intro w' hSw
      have z0 := hSw.cell 1
      have z1 := hSw.cell 2
      have z2 := hSw.cell 3
      have z3 := hSw.cell 4
      simp at z0 z1 z2 z3
      go_simp
    refine wpAnyH_take (i := 6) (v := .int .i64 bl) rfl (by kernel_rfl) (by kernel_rfl) (by kernel_rfl) (fun _ _ _ h => h) (Or.inl ⟨by kernel_rfl, ?_⟩) hHeld ?_
    · intro w' hSw
      have z0 := hSw.cell 1
      have z1 := hSw.cell 2
      have z2 := hSw.cell 3
      have z3 := hSw.cell 4
      simp at z0 z1 z2 z3
      go_simp
    try simp only [Act.put, List.setIfInBounds_toArray]
    refine wpAnyH_ready (rs := [3]) (by kernel_rfl) (by simp) ?_
    refine AllReadyH.cons rfl (fun K hK => ?_) AllReadyH.nil
    · go_simp
      refine (HO.out _ hS1).mono ?_
      rintro e w2 ⟨rfl, hS2⟩
      refine hK.out _ _ hS2.box (fun hHeld2 => ?_)
      try simp only [Act.put, List.setIfInBounds_toArray, List.set]
      refine wpAnyH_ready (rs := [7]) (by kernel_rfl) (by simp) ?_
      refine AllReadyH.cons rfl (fun K hK => ?_) AllReadyH.nil
      go_simp
      refine (HR.out _ hS2).mono ?_
      rintro e w3 ⟨rfl, hS3⟩
      have HS3 := Lib.hid hS3
      refine hK.out _ _ hS3.box (fun hHeld3 => ?_)
      try simp only [Act.put, List.setIfInBounds_toArray, List.set]
      refine wpAnyH_ready (rs := [8]) (by kernel_rfl) (by simp) ?_
      refine AllReadyH.cons rfl (fun K hK => ?_) AllReadyH.nil
      go_simp
      refine hK.out _ _ hHeld3 (fun _ => ?_)
      try simp only [Act.put, List.setIfInBounds_toArray]
      refine wpAnyH_ready (rs := [9]) (by kernel_rfl) (by simp) ?_
      refine AllReadyH.cons rfl (fun K hK => ?_) AllReadyH.nil
      go_simp
      refine hK.out _ _ hHeld3 (fun _ => ?_)
      refine wpAnyH_done (by kernel_rfl) ?_ _
      clear hHeld hHeld2 hHeld3 hS1 hS2 hS3
      go_wp2
      go_ret
      exact HFin.out _ _ _ _ _ HS3.out HLE.out
  have t3 : (kd == 3) = false := beq_eq_false_iff_ne.2 k3
  by_cases k4 : kd = 4
  · have t4 : (kd == 4) = true := beq_iff_eq.2 k4
    obtain ⟨E, l, c1, r1, hle, hO, hR⟩ := two_read (w0 := w) (X := X) (o := o) (ro := ro) (pb := pb) (cs := #[.int .i64 kd, .int .i64 bl, .int .i64 pg, .slice A3 m3 c3, .slice A4 m4 c4]) HLk.out HLen.out bl pg
    have HLE := Lib.hid hle
    have HO := Lib.hid hO
    have HR := Lib.hid hR
    have tE : (E == E) = true := beq_self_eq_true _
    have hop : o.p = .pointer (some ⟨o.bc, 0, none⟩) := rfl
    rw [hop] at HO
    clear hop k4 hle hO hR
    go_wp2_with fail
    refine (HO.out _ HS0.out).mono ?_
    rintro e w2 ⟨⟨a, cc, rfl, hcc, hr⟩, hS2⟩
    have z1 : w2.cell? ⟨pb, 1, none⟩ = some (.int .i64 bl) := hS2.box.cell 1
    have z2 : w2.cell? ⟨pb, 2, none⟩ = some (.int .i64 pg) := hS2.box.cell 2
    have HS2 := Lib.hid hS2
    have HRr := Lib.hid hr
    obtain ⟨n1, hn1⟩ : ∃ n, l.length = n := ⟨_, rfl⟩
    have HN1 := Lib.hid hn1
    rw [hn1] at HR ⊢
    clear hS2 hr hcc hn1
    go_wp2_with fail
    refine (HR.out _ HS2.out).mono ?_
    rintro e w3 ⟨⟨a2, cc2, rfl, hcc2, hr2⟩, hS3, hk3⟩
    have HSa := Lib.hid (same_any a a2 cc cc2 n1 n1 l l w3 (HRr.out.kp hk3 (fun _ g => g)).1 hr2 HN1.out HN1.out)
    rw [show decide (l = l) = true from decide_eq_true rfl] at HSa
    have HS3 := Lib.hid hS3
    clear hS3 hk3 hr2 hcc2 z1 z2
    go_wp2_with fail
    refine HSa.out.mono ?_
    rintro e w' ⟨rfl, rfl⟩
    go_wp2
    go_ret
    exact HFin.out _ _ _ _ _ HS3.out HLE.out
  have t4 : (kd == 4) = false := beq_eq_false_iff_ne.2 k4
  by_cases k5 : kd = 5
  · have t5 : (kd == 5) = true := beq_iff_eq.2 k5
    have HO := Lib.hid (lose_any HS0.out.a)
    have hop : o.p = .pointer (some ⟨o.bc, 0, none⟩) := rfl
    rw [hop] at HO
    clear hop k5
    go_wp2_with fail
    refine HO.out.mono ?_
    rintro e w2 ⟨rfl, hc2, hk2⟩
    have hS2 := HS0.out.own hc2 rfl hk2
    have z10 := hS2.b.gcells.2.1
    have zf := (hS2.b.rc.froz 10).1
    have HS3 := Lib.hid (hS2.ref (hS2.b.putd true) (kp_set (i := 10) (u := .bool true) (Kp.refl _ _) (.inl rfl)))
    have HLE : Hid (LkS { c with up := false } { r with dn := true }) := Lib.hid ⟨HLk.out.s.geo, HLk.out.s.pg, HLk.out.s.bad, HLk.out.s.wr, rfl, HLk.out.s.st, HLk.out.s.rd⟩
    clear hS2 hc2 hk2
    go_wp2
    go_ret
    exact HFin.out _ _ _ _ _ HS3.out HLE.out
  have t5 : (kd == 5) = false := beq_eq_false_iff_ne.2 k5
  by_cases k6 : kd = 6
  · have t6 : (kd == 6) = true := beq_iff_eq.2 k6
    have HO := Lib.hid (start_any HS0.out.a)
    have hop : o.p = .pointer (some ⟨o.bc, 0, none⟩) := rfl
    rw [hop] at HO
    clear hop k6
    go_wp2_with fail
    refine HO.out.mono ?_
    rintro e w2 ⟨rfl, hc2, hk2⟩
    have hS2 := HS0.out.own hc2 rfl hk2
    have z10 := hS2.b.gcells.2.1
    have zf := (hS2.b.rc.froz 10).1
    have HS3 := Lib.hid (hS2.ref (hS2.b.putd false) (kp_set (i := 10) (u := .bool false) (Kp.refl _ _) (.inl rfl)))
    have HLE : Hid (LkS { c with up := true } { r with dn := false }) := Lib.hid ⟨HLk.out.s.geo, HLk.out.s.pg, HLk.out.s.bad, HLk.out.s.wr, rfl, HLk.out.s.st, HLk.out.s.rd⟩
    clear hS2 hc2 hk2
    go_wp2
    go_ret
    exact HFin.out _ _ _ _ _ HS3.out HLE.out
  have t6 : (kd == 6) = false := beq_eq_false_iff_ne.2 k6
  by_cases k7 : kd = 7
  · have t7 : (kd == 7) = true := beq_iff_eq.2 k7
    have hs1 : (fl.length : Int) ≤ 9000 := HSm.out.2.1
    have hs2 := HL4.out
    obtain ⟨E, c1, r1, hle, hO, hR⟩ := (bscript HLk.out w A4 m4 c4 fl HF.out HL4.out (by omega) (fun f hf => by have := HSm.out.2.2 f hf; omega) : Bo X o c ro r _ _ _ w).two (pb := pb) (cs := #[.int .i64 kd, .int .i64 bl, .int .i64 pg, .slice A3 m3 c3, .slice A4 m4 c4])
    have HLE := Lib.hid hle
    have HO := Lib.hid hO
    have HR := Lib.hid hR
    have tE : (E == E) = true := beq_self_eq_true _
    have hop : o.p = .pointer (some ⟨o.bc, 0, none⟩) := rfl
    rw [hop] at HO
    clear hop hle hO hR k7
    clear hs1 hs2
    go_upto_region 19 with (fail)
    refine wp_region_held_drew (S := fun w' => Blk w' pb 30 #[.int .i64 kd, .int .i64 bl, .int .i64 pg, .slice A3 m3 c3, .slice A4 m4 c4]) (by kernel_rfl) (HS0.out.below (Below.refl _ _).drew).box (fun hHeld => ?_)
    have hS1 := HS0.out.below (Below.refl _ _).drew
    refine wpAnyH_take (i := 0) (v := .pointer (some ⟨o.bc, 0, none⟩)) rfl (by kernel_rfl) (by kernel_rfl) (by kernel_rfl) (fun _ _ _ h => h) (Or.inl ⟨by kernel_rfl, ?_⟩) hHeld ?_
    · intro w' hSw
      have z0 := hSw.cell 1
      have z1 := hSw.cell 2
      have z2 := hSw.cell 3
      have z3 := hSw.cell 4
      simp at z0 z1 z2 z3
      go_simp
    refine wpAnyH_take (i := 1) (v := .pointer (some ⟨pb, 4, none⟩)) rfl (by kernel_rfl) (by kernel_rfl) (by kernel_rfl) (fun _ _ _ h => h) (Or.inl ⟨by kernel_rfl, ?_⟩) hHeld ?_
    · intro w' hSw
      have z0 := hSw.cell 1
      have z1 := hSw.cell 2
      have z2 := hSw.cell 3
      have z3 := hSw.cell 4
      simp at z0 z1 z2 z3
      go_simp
    refine wpAnyH_take (i := 2) (v := .slice A4 m4 c4) rfl (by kernel_rfl) (by kernel_rfl) (by kernel_rfl) (fun _ _ _ h => h) (Or.inl ⟨by kernel_rfl, ?_⟩) hHeld ?_
    · intro w' hSw
      have z0 := hSw.cell 1
      have z1 := hSw.cell 2
      have z2 := hSw.cell 3
      have z3 := hSw.cell 4
      simp at z0 z1 z2 z3
      go_simp
    refine wpAnyH_take (i := 4) (v := .pointer (some ⟨ro.g, 0, none⟩)) rfl (by kernel_rfl) (by kernel_rfl) (by kernel_rfl) (fun _ _ _ h => h) (Or.inl ⟨by kernel_rfl, ?_⟩) hHeld ?_
    · intro w' hSw
      have z0 := hSw.cell 1
      have z1 := hSw.cell 2
      have z2 := hSw.cell 3
      have z3 := hSw.cell 4
      simp at z0 z1 z2 z3
      go_simp
    refine wpAnyH_take (i := 5) (v := .pointer (some ⟨pb, 4, none⟩)) rfl (by kernel_rfl) (by kernel_rfl) (by kernel_rfl) (fun _ _ _ h => h) (Or.inl ⟨by kernel_rfl, ?_⟩) hHeld ?_
    · intro w' hSw
      have z0 := hSw.cell 1
      have z1 := hSw.cell 2
      have z2 := hSw.cell 3
      have z3 := hSw.cell 4
      simp at z0 z1 z2 z3
      go_simp
    refine wpAnyH_take (i := 6) (v := .slice A4 m4 c4) rfl (by kernel_rfl) (by kernel_rfl) (by kernel_rfl) (fun _ _ _ h => h) (Or.inl ⟨by kernel_rfl, ?_⟩) hHeld ?_
    · intro w' hSw
      have z0 := hSw.cell 1
      have z1 := hSw.cell 2
      have z2 := hSw.cell 3
      have z3 := hSw.cell 4
      simp at z0 z1 z2 z3
      go_simp
    try simp only [Act.put, List.setIfInBounds_toArray]
    refine wpAnyH_ready (rs := [3]) (by kernel_rfl) (by simp) ?_
    refine AllReadyH.cons rfl (fun K hK => ?_) AllReadyH.nil
    · go_simp
      refine (HO.out _ hS1).mono ?_
      rintro e w2 ⟨rfl, hS2⟩
      refine hK.out _ _ hS2.box (fun hHeld2 => ?_)
      try simp only [Act.put, List.setIfInBounds_toArray, List.set]
      refine wpAnyH_ready (rs := [7]) (by kernel_rfl) (by simp) ?_
      refine AllReadyH.cons rfl (fun K hK => ?_) AllReadyH.nil
      go_simp
      refine (HR.out _ hS2).mono ?_
      rintro e w3 ⟨rfl, hS3⟩
      have HS3 := Lib.hid hS3
      refine hK.out _ _ hS3.box (fun hHeld3 => ?_)
      try simp only [Act.put, List.setIfInBounds_toArray, List.set]
      refine wpAnyH_ready (rs := [8]) (by kernel_rfl) (by simp) ?_
      refine AllReadyH.cons rfl (fun K hK => ?_) AllReadyH.nil
      go_simp
      refine hK.out _ _ hHeld3 (fun _ => ?_)
      try simp only [Act.put, List.setIfInBounds_toArray]
      refine wpAnyH_ready (rs := [9]) (by kernel_rfl) (by simp) ?_
      refine AllReadyH.cons rfl (fun K hK => ?_) AllReadyH.nil
      go_simp
      refine hK.out _ _ hHeld3 (fun _ => ?_)
      refine wpAnyH_done (by kernel_rfl) ?_ _
      clear hHeld hHeld2 hHeld3 hS1 hS2 hS3
      go_wp2
      go_ret
      exact HFin.out _ _ _ _ _ HS3.out HLE.out
  have t7 : (kd == 7) = false := beq_eq_false_iff_ne.2 k7
  go_wp2
  go_ret
  exact HFin.out _ _ _ _ _ HS0.out HLk.out.s

end Go.Proofs.Ytiaaeiefgnoiaaa
