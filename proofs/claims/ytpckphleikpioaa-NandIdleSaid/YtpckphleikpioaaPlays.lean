/-
  Both chips in memory, and an operation done on both (made by gen_plays.py).
-/
import Derived.Test.YtpckphleikpioaaRefErase
import Derived.Test.YtpckphleikpioaaNandAll
import Derived.Test.YtpckphleikpioaaNandFew
import Derived.Test.YtpckphleikpioaaTagNum
import Derived.Deep.RegionHeld3
namespace Go.Proofs.Ytpckphleikpioaa
open Go.RowKit Crcm Tagm Go.ChangeShapes

/-- both chips -/
structure Tw (w : World) (X : Nat → Prop) (o : Own) (c : Ch) (r : Rb) : Prop where
  a : ChAt w X o c
  b : ∃ dn, RcAt w X r c.nb c.np c.sz dn
  dis : ∀ b, o.F c.nb b → ¬ r.F b
theorem Tw.own {w w' : World} {X P : Nat → Prop} {o : Own} {c c' : Ch} {r : Rb} (h : Tw w X o c r) (hc : ChAt w' X o c') (hk : Kp (o.F c.nb) w w') (hd : Kd c c' P) : Tw w' X o c' r := by
  obtain ⟨dn, hb⟩ := h.b
  refine ⟨hc, ⟨dn, ?_⟩, by rw [hd.1]; exact h.dis⟩
  rw [hd.1, hd.2.1, hd.2.2.1]
  exact hb.kp hk h.a.inX (fun b hb g => h.dis b g hb)
theorem Tw.ref {w w' : World} {X : Nat → Prop} {o : Own} {c : Ch} {r : Rb} (h : Tw w X o c r) {dn : Bool} (hb : RcAt w' X r c.nb c.np c.sz dn) (hk : Kp r.F w w') : Tw w' X o c r :=
  ⟨h.a.kp hk hb.inX h.dis, ⟨dn, hb⟩, h.dis⟩
theorem Tw.below {w w' : World} {X : Nat → Prop} {o : Own} {c : Ch} {r : Rb} (h : Tw w X o c r) (hb : Below w.heap.size w w') : Tw w' X o c r := by
  obtain ⟨dn, hr⟩ := h.b
  exact ⟨h.a.below hb, ⟨dn, hr.below hb⟩, h.dis⟩
/-- what stands while an operation is done on both: the box, the chips -/
structure TwS (w0 : World) (X : Nat → Prop) (o : Own) (c : Ch) (r : Rb) (P : Nat → Prop) (pb : Nat) (cs : Array Value) (w : World) : Prop where
  box : Blk w pb 30 cs
  nx : ¬ X pb
  tw : ∃ c', Tw w X o c' r ∧ Kd c c' P
  kp : Kp X w0 w
theorem TwS.own {w0 w w' : World} {X P : Nat → Prop} {o : Own} {c : Ch} {r : Rb} {pb : Nat} {cs : Array Value} {c1 c' : Ch} (h : TwS w0 X o c r P pb cs w) (h1 : Tw w X o c1 r) (h2 : Kd c c1 P) (hc : ChAt w' X o c') (hk : Kp (o.F c1.nb) w w') (hd : Kd c1 c' P) : TwS w0 X o c r P pb cs w' :=
  ⟨h.box.kp hk (fun g => h.nx (h1.a.inX _ g)), h.nx, ⟨c', h1.own hc hk hd, h2.trans hd⟩, h.kp.trans (hk.mono h1.a.inX)⟩
theorem TwS.ref {w0 w w' : World} {X P : Nat → Prop} {o : Own} {c : Ch} {r : Rb} {pb : Nat} {cs : Array Value} {c1 : Ch} {dn : Bool} (h : TwS w0 X o c r P pb cs w) (h1 : Tw w X o c1 r) (h2 : Kd c c1 P) (hb : RcAt w' X r c1.nb c1.np c1.sz dn) (hk : Kp r.F w w') : TwS w0 X o c r P pb cs w' :=
  ⟨h.box.kp hk (fun g => h.nx (hb.inX _ g)), h.nx, ⟨c1, h1.ref hb hk, h2⟩, h.kp.trans (hk.mono hb.inX)⟩
theorem TwS.below {w0 w w' : World} {X P : Nat → Prop} {o : Own} {c : Ch} {r : Rb} {pb : Nat} {cs : Array Value} (h : TwS w0 X o c r P pb cs w) (hb : Below w.heap.size w w') : TwS w0 X o c r P pb cs w' := by
  obtain ⟨c1, h1, h2⟩ := h.tw
  exact ⟨h.box.below hb h.box.lt, h.nx, ⟨c1, h1.below hb, h2⟩, h.kp.trans (Kp.of_below hb)⟩
theorem kp_opt {X : Nat → Prop} {w0 w : World} (h : Kp X w0 w) {A : Option Addr} {l : List Int} (hr : RwX w0 X A l) : RwX w X A l := hr.kp h (fun _ g => g)

section
variable {w0 : World} {X P : Nat → Prop} {o : Own} {c : Ch} {r : Rb} {pb : Nat} {cs : Array Value}
theorem own_prog (k page : Int) (A : Option Addr) (m cap : Nat) (l : List Int) (hr : RwX w0 X A l) (hl : l.length = m) (w : World) (hS : TwS w0 X o c r P pb cs w) :
    Calls Try.prog 22 #[o.p, .int .i64 k, .int .i64 page, .slice A m cap] w fun e w' => (∃ x : Int, e = .returned (.int .i64 x)) ∧ TwS w0 X o c r P pb cs w' := by
  obtain ⟨c1, h1, h2⟩ := hS.tw
  refine (gprog_all h1.a k page A m cap l (kp_opt hS.kp hr) hl P).mono ?_
  rintro e w' ⟨x, c', rfl, hc, hk, hd, -⟩
  exact ⟨⟨x, rfl⟩, hS.own h1 h2 hc hk hd⟩
theorem ref_prog (k page : Int) (A : Option Addr) (m cap : Nat) (l : List Int) (hr : RwX w0 X A l) (hl : l.length = m) (w : World) (hS : TwS w0 X o c r P pb cs w) :
    Calls Try.prog 38 #[.pointer (some ⟨r.g, 0, none⟩), .int .i64 k, .int .i64 page, .slice A m cap] w fun e w' => (∃ x : Int, e = .returned (.int .i64 x)) ∧ TwS w0 X o c r P pb cs w' := by
  obtain ⟨c1, h1, h2⟩ := hS.tw
  obtain ⟨dn, hb⟩ := h1.b
  refine (rprogram_any hb k page A m cap l (kp_opt hS.kp hr) hl).mono ?_
  rintro e w' ⟨⟨x, rfl⟩, ⟨dn', hb'⟩, hk⟩
  exact ⟨⟨x, rfl⟩, hS.ref h1 h2 hb' hk⟩
theorem own_erase (k : Int) (hP : ∀ j : Nat, (j : Int) = k → P j) (w : World) (hS : TwS w0 X o c r P pb cs w) :
    Calls Try.prog 23 #[o.p, .int .i64 k] w fun e w' => (∃ x : Int, e = .returned (.int .i64 x)) ∧ TwS w0 X o c r P pb cs w' := by
  obtain ⟨c1, h1, h2⟩ := hS.tw
  refine (gerase_all h1.a k).mono ?_
  rintro e w' ⟨x, c', rfl, hc, hk, hd, -⟩
  exact ⟨⟨x, rfl⟩, hS.own h1 h2 hc hk (hd.mono hP)⟩
theorem ref_erase (k : Int) (w : World) (hS : TwS w0 X o c r P pb cs w) :
    Calls Try.prog 39 #[.pointer (some ⟨r.g, 0, none⟩), .int .i64 k] w fun e w' => (∃ x : Int, e = .returned (.int .i64 x)) ∧ TwS w0 X o c r P pb cs w' := by
  obtain ⟨c1, h1, h2⟩ := hS.tw
  obtain ⟨dn, hb⟩ := h1.b
  refine (rerase_any hb k).mono ?_
  rintro e w' ⟨⟨x, rfl⟩, ⟨dn', hb'⟩, hk⟩
  exact ⟨⟨x, rfl⟩, hS.ref h1 h2 hb' hk⟩
theorem own_mark (k : Int) (w : World) (hS : TwS w0 X o c r P pb cs w) :
    Calls Try.prog 24 #[o.p, .int .i64 k] w fun e w' => (∃ x : Int, e = .returned (.int .i64 x)) ∧ TwS w0 X o c r P pb cs w' := by
  obtain ⟨c1, h1, h2⟩ := hS.tw
  refine (gmark_all h1.a k P).mono ?_
  rintro e w' ⟨x, c', rfl, hc, hk, hd, -⟩
  exact ⟨⟨x, rfl⟩, hS.own h1 h2 hc hk hd⟩
theorem ref_mark (k : Int) (w : World) (hS : TwS w0 X o c r P pb cs w) :
    Calls Try.prog 40 #[.pointer (some ⟨r.g, 0, none⟩), .int .i64 k] w fun e w' => (∃ x : Int, e = .returned (.int .i64 x)) ∧ TwS w0 X o c r P pb cs w' := by
  obtain ⟨c1, h1, h2⟩ := hS.tw
  obtain ⟨dn, hb⟩ := h1.b
  refine (rmark_any hb k).mono ?_
  rintro e w' ⟨rfl, hb', hk⟩
  exact ⟨⟨_, rfl⟩, hS.ref h1 h2 hb' hk⟩
theorem own_script (A : Option Addr) (m cap : Nat) (fl : List Fl) (hf : FlAt w0 X (.slice A m cap) fl) (hn : fl.length = m) (hn2 : m ≤ 20000) (hd : ∀ f ∈ fl, f.data.length ≤ 20000) (w : World) (hS : TwS w0 X o c r P pb cs w) :
    Calls Try.prog 25 #[o.p, .slice A m cap] w fun e w' => (∃ x : Int, e = .returned (.int .i64 x)) ∧ TwS w0 X o c r P pb cs w' := by
  obtain ⟨c1, h1, h2⟩ := hS.tw
  refine (gscript_all h1.a A m cap fl (hf.kp hS.kp (fun _ g => g)) hn hn2 hd P).mono ?_
  rintro e w' ⟨x, c', rfl, hc, hk, hd, -⟩
  exact ⟨⟨x, rfl⟩, hS.own h1 h2 hc hk hd⟩
theorem ref_script (A : Option Addr) (m cap : Nat) (fl : List Fl) (hf : FlAt w0 X (.slice A m cap) fl) (w : World) (hS : TwS w0 X o c r P pb cs w) :
    Calls Try.prog 43 #[.pointer (some ⟨r.g, 0, none⟩), .slice A m cap] w fun e w' => (∃ x : Int, e = .returned (.int .i64 x)) ∧ TwS w0 X o c r P pb cs w' := by
  obtain ⟨c1, h1, h2⟩ := hS.tw
  obtain ⟨dn, hb⟩ := h1.b
  refine (rscript_any hb A m cap fl (hf.kp hS.kp (fun _ g => g))).mono ?_
  rintro e w' ⟨he, hb', hk⟩
  refine ⟨?_, hS.ref h1 h2 hb' hk⟩
  rcases he with rfl | rfl
  · exact ⟨0, rfl⟩
  · exact ⟨1, rfl⟩
theorem own_lose (w : World) (hS : TwS w0 X o c r P pb cs w) :
    Calls Try.prog 42 #[o.p] w fun e w' => e = .returned (.tuple #[]) ∧ TwS w0 X o c r P pb cs w' := by
  obtain ⟨c1, h1, h2⟩ := hS.tw
  refine (lose_any h1.a).mono ?_
  rintro e w' ⟨rfl, hc, hk⟩
  exact ⟨rfl, hS.own h1 h2 hc hk (Kd.same rfl rfl rfl rfl P)⟩
theorem own_start (w : World) (hS : TwS w0 X o c r P pb cs w) :
    Calls Try.prog 15 #[o.p] w fun e w' => e = .returned (.tuple #[]) ∧ TwS w0 X o c r P pb cs w' := by
  obtain ⟨c1, h1, h2⟩ := hS.tw
  refine (start_any h1.a).mono ?_
  rintro e w' ⟨rfl, hc, hk⟩
  exact ⟨rfl, hS.own h1 h2 hc hk (Kd.same rfl rfl rfl rfl P)⟩
theorem ref_down (z : Bool) (w : World) (hS : TwS w0 X o c r P pb cs w) : (∃ dn, w.cell? ⟨r.g, 10, none⟩ = some (.bool dn)) ∧ w.frozen? ⟨r.g, 10, none⟩ = false ∧ TwS w0 X o c r P pb cs (w.setCell ⟨r.g, 10, none⟩ (.bool z)) := by
  obtain ⟨c1, h1, h2⟩ := hS.tw
  obtain ⟨dn, hb⟩ := h1.b
  exact ⟨⟨dn, hb.down.1⟩, hb.down.2, hS.ref h1 h2 (hb.putd z) (kp_set (Kp.refl _ _) (.inl rfl))⟩
theorem own_read (k page : Int) (w : World) (hS : TwS w0 X o c r P pb cs w) :
    Calls Try.prog 16 #[o.p, .int .i64 k, .int .i64 page] w fun e w' => (∃ a cc l x, e = .returned (.tuple #[.slice a l.length cc, .int .i64 x]) ∧ l.length ≤ cc ∧ RwX w' X a l) ∧ TwS w0 X o c r P pb cs w' := by
  obtain ⟨c1, h1, h2⟩ := hS.tw
  refine (gread_all h1.a k page).mono ?_
  rintro e w' ⟨he, ⟨c', hc, hd⟩, hk⟩
  exact ⟨he, hS.own h1 h2 hc hk (hd.mono fun _ g => g.elim)⟩
theorem ref_read (k page : Int) (w : World) (hS : TwS w0 X o c r P pb cs w) :
    Calls Try.prog 41 #[.pointer (some ⟨r.g, 0, none⟩), .int .i64 k, .int .i64 page] w fun e w' => (∃ a cc l x, e = .returned (.tuple #[.slice a l.length cc, .int .i64 x]) ∧ l.length ≤ cc ∧ Rw w' a l) ∧ TwS w0 X o c r P pb cs w' ∧ Kp X w w' := by
  obtain ⟨c1, h1, h2⟩ := hS.tw
  obtain ⟨dn, hb⟩ := h1.b
  refine (rread2_any hb k page).mono ?_
  rintro e w' ⟨he, hb', hk⟩
  exact ⟨he, hS.ref h1 h2 hb' hk, hk.mono hb'.inX⟩
end

/-- what an operation on both comes to -/
def PlP (w : World) (X : Nat → Prop) (o : Own) (c : Ch) (r : Rb) (y : Oz) (e : Ending) (w' : World) : Prop :=
  (∃ b : Bool, e = .returned (.bool b)) ∧ (∃ c', Tw w' X o c' r ∧ Kd c c' fun j => y.kind = 2 ∧ (j : Int) = y.block) ∧ Kp X w w'

set_option maxRecDepth 100000 in
set_option maxHeartbeats 8000000 in
theorem plays_any {w : World} {X : Nat → Prop} {o : Own} {c : Ch} {r : Rb} (h : Tw w X o c r) (y : Oz) (A3 : Option Addr) (m3 c3 : Nat) (A4 : Option Addr) (m4 c4 : Nat) (hb : RwX w X A3 y.b) (hl3 : y.b.length = m3) (hf : FlAt w X (.slice A4 m4 c4) y.fl) (hl4 : y.fl.length = m4) (hs : Sm 9000 y) :
    Calls Try.prog 13 #[o.p, .pointer (some ⟨r.g, 0, none⟩), .agg #[.int .i64 y.kind, .int .i64 y.block, .int .i64 y.page, .slice A3 m3 c3, .slice A4 m4 c4]] w (PlP w X o c r y) := by
  obtain ⟨kd, bl, pg, bb, fl⟩ := y
  dsimp only at hb hl3 hf hl4 ⊢
  have BX := Blk.new w 30 #[.int .i64 kd, .int .i64 bl, .int .i64 pg, .slice A3 m3 c3, .slice A4 m4 c4]
  have hbl := (Below.refl w.heap.size w).alloc (Nat.le_refl _) (.cells #[.int .i64 kd, .int .i64 bl, .int .i64 pg, .slice A3 m3 c3, .slice A4 m4 c4] 30)
  have HS0 : Hid (TwS w X o c r (fun j => kd = 2 ∧ (j : Int) = bl) w.heap.size #[.int .i64 kd, .int .i64 bl, .int .i64 pg, .slice A3 m3 c3, .slice A4 m4 c4] (w.alloc (.cells #[.int .i64 kd, .int .i64 bl, .int .i64 pg, .slice A3 m3 c3, .slice A4 m4 c4] 30))) :=
    Lib.hid ⟨BX, fun g => by have := h.a.old _ g; omega, ⟨c, h.below hbl, Kd.refl _ _⟩, Kp.of_below hbl⟩
  have HFin : Hid (∀ (b : Bool) (cs : Array Value) (pb : Nat) (w' : World), TwS w X o c r (fun j => kd = 2 ∧ (j : Int) = bl) pb cs w' → PlP w X o c r ⟨kd, bl, pg, bb, fl⟩ (.returned (.bool b)) w') := Lib.hid (fun b cs pb w' hS => ⟨⟨b, rfl⟩, hS.tw, hS.kp⟩)
  have HB := Lib.hid hb
  have HL3 := Lib.hid hl3
  have HF := Lib.hid hf
  have HL4 := Lib.hid hl4
  have HSm := Lib.hid hs
  have hop : o.p = .pointer (some ⟨o.bc, 0, none⟩) := rfl
  clear h hb hl3 hf hl4 hs BX hbl
  rw [hop]
  clear hop
  go_enter Try.func13, Try.ntmps13
  go_upto_region 1 with (fail)
  generalize (w.alloc (.cells #[.int .i64 kd, .int .i64 bl, .int .i64 pg, .slice A3 m3 c3, .slice A4 m4 c4] 30)) = W at HS0 ⊢
  generalize w.heap.size = pb at HS0 ⊢
  have q0 : W.cell? ⟨pb, 0, none⟩ = some (.int .i64 kd) := HS0.out.box.cell 0
  have q1 : W.cell? ⟨pb, 1, none⟩ = some (.int .i64 bl) := HS0.out.box.cell 1
  have q2 : W.cell? ⟨pb, 2, none⟩ = some (.int .i64 pg) := HS0.out.box.cell 2
  have q3 : W.cell? ⟨pb, 3, none⟩ = some (.slice A3 m3 c3) := HS0.out.box.cell 3
  have q4 : W.cell? ⟨pb, 4, none⟩ = some (.slice A4 m4 c4) := HS0.out.box.cell 4
  by_cases k1 : kd = 1
  · have t1 : (kd == 1) = true := beq_iff_eq.2 k1
    have HO := Lib.hid (fun w2 (hS : TwS w X o c r (fun j => kd = 2 ∧ (j : Int) = bl) pb #[.int .i64 kd, .int .i64 bl, .int .i64 pg, .slice A3 m3 c3, .slice A4 m4 c4] w2) => own_prog bl pg A3 m3 c3 bb HB.out HL3.out w2 hS)
    have HR := Lib.hid (fun w2 (hS : TwS w X o c r (fun j => kd = 2 ∧ (j : Int) = bl) pb #[.int .i64 kd, .int .i64 bl, .int .i64 pg, .slice A3 m3 c3, .slice A4 m4 c4] w2) => ref_prog bl pg A3 m3 c3 bb HB.out HL3.out w2 hS)
    have hop : o.p = .pointer (some ⟨o.bc, 0, none⟩) := rfl
    rw [hop] at HO
    clear hop
    clear k1
    go_upto_region 3 with (fail)
    refine wp_region_held_drew (S := TwS w X o c r (fun j => kd = 2 ∧ (j : Int) = bl) pb #[.int .i64 kd, .int .i64 bl, .int .i64 pg, .slice A3 m3 c3, .slice A4 m4 c4]) (by kernel_rfl) (HS0.out.below (Below.refl _ _).drew) (fun hHeld => ?_)
    refine wpAnyH_take (i := 0) (v := .pointer (some ⟨o.bc, 0, none⟩)) rfl (by kernel_rfl) (by kernel_rfl) (by kernel_rfl) (fun _ _ _ h => h) (Or.inl ⟨by kernel_rfl, ?_⟩) hHeld ?_
    · intro w' hSw
      have z0 := hSw.box.cell 1
      have z1 := hSw.box.cell 2
      have z2 := hSw.box.cell 3
      have z3 := hSw.box.cell 4
      simp at z0 z1 z2 z3
      go_simp
    refine wpAnyH_take (i := 1) (v := .pointer (some ⟨pb, 1, none⟩)) rfl (by kernel_rfl) (by kernel_rfl) (by kernel_rfl) (fun _ _ _ h => h) (Or.inl ⟨by kernel_rfl, ?_⟩) hHeld ?_
    · intro w' hSw
      have z0 := hSw.box.cell 1
      have z1 := hSw.box.cell 2
      have z2 := hSw.box.cell 3
      have z3 := hSw.box.cell 4
      simp at z0 z1 z2 z3
      go_simp
    refine wpAnyH_take (i := 2) (v := .int .i64 bl) rfl (by kernel_rfl) (by kernel_rfl) (by kernel_rfl) (fun _ _ _ h => h) (Or.inl ⟨by kernel_rfl, ?_⟩) hHeld ?_
    · intro w' hSw
      have z0 := hSw.box.cell 1
      have z1 := hSw.box.cell 2
      have z2 := hSw.box.cell 3
      have z3 := hSw.box.cell 4
      simp at z0 z1 z2 z3
      go_simp
    refine wpAnyH_take (i := 3) (v := .pointer (some ⟨pb, 2, none⟩)) rfl (by kernel_rfl) (by kernel_rfl) (by kernel_rfl) (fun _ _ _ h => h) (Or.inl ⟨by kernel_rfl, ?_⟩) hHeld ?_
    · intro w' hSw
      have z0 := hSw.box.cell 1
      have z1 := hSw.box.cell 2
      have z2 := hSw.box.cell 3
      have z3 := hSw.box.cell 4
      simp at z0 z1 z2 z3
      go_simp
    refine wpAnyH_take (i := 4) (v := .int .i64 pg) rfl (by kernel_rfl) (by kernel_rfl) (by kernel_rfl) (fun _ _ _ h => h) (Or.inl ⟨by kernel_rfl, ?_⟩) hHeld ?_
    · intro w' hSw
      have z0 := hSw.box.cell 1
      have z1 := hSw.box.cell 2
      have z2 := hSw.box.cell 3
      have z3 := hSw.box.cell 4
      simp at z0 z1 z2 z3
      go_simp
    refine wpAnyH_take (i := 5) (v := .pointer (some ⟨pb, 3, none⟩)) rfl (by kernel_rfl) (by kernel_rfl) (by kernel_rfl) (fun _ _ _ h => h) (Or.inl ⟨by kernel_rfl, ?_⟩) hHeld ?_
    · intro w' hSw
      have z0 := hSw.box.cell 1
      have z1 := hSw.box.cell 2
      have z2 := hSw.box.cell 3
      have z3 := hSw.box.cell 4
      simp at z0 z1 z2 z3
      go_simp
    refine wpAnyH_take (i := 6) (v := .slice A3 m3 c3) rfl (by kernel_rfl) (by kernel_rfl) (by kernel_rfl) (fun _ _ _ h => h) (Or.inl ⟨by kernel_rfl, ?_⟩) hHeld ?_
    · intro w' hSw
      have z0 := hSw.box.cell 1
      have z1 := hSw.box.cell 2
      have z2 := hSw.box.cell 3
      have z3 := hSw.box.cell 4
      simp at z0 z1 z2 z3
      go_simp
    refine wpAnyH_take (i := 8) (v := .pointer (some ⟨r.g, 0, none⟩)) rfl (by kernel_rfl) (by kernel_rfl) (by kernel_rfl) (fun _ _ _ h => h) (Or.inl ⟨by kernel_rfl, ?_⟩) hHeld ?_
    · intro w' hSw
      have z0 := hSw.box.cell 1
      have z1 := hSw.box.cell 2
      have z2 := hSw.box.cell 3
      have z3 := hSw.box.cell 4
      simp at z0 z1 z2 z3
      go_simp
    refine wpAnyH_take (i := 9) (v := .pointer (some ⟨pb, 1, none⟩)) rfl (by kernel_rfl) (by kernel_rfl) (by kernel_rfl) (fun _ _ _ h => h) (Or.inl ⟨by kernel_rfl, ?_⟩) hHeld ?_
    · intro w' hSw
      have z0 := hSw.box.cell 1
      have z1 := hSw.box.cell 2
      have z2 := hSw.box.cell 3
      have z3 := hSw.box.cell 4
      simp at z0 z1 z2 z3
      go_simp
    refine wpAnyH_take (i := 10) (v := .int .i64 bl) rfl (by kernel_rfl) (by kernel_rfl) (by kernel_rfl) (fun _ _ _ h => h) (Or.inl ⟨by kernel_rfl, ?_⟩) hHeld ?_
    · intro w' hSw
      have z0 := hSw.box.cell 1
      have z1 := hSw.box.cell 2
      have z2 := hSw.box.cell 3
      have z3 := hSw.box.cell 4
      simp at z0 z1 z2 z3
      go_simp
    refine wpAnyH_take (i := 11) (v := .pointer (some ⟨pb, 2, none⟩)) rfl (by kernel_rfl) (by kernel_rfl) (by kernel_rfl) (fun _ _ _ h => h) (Or.inl ⟨by kernel_rfl, ?_⟩) hHeld ?_
    · intro w' hSw
      have z0 := hSw.box.cell 1
      have z1 := hSw.box.cell 2
      have z2 := hSw.box.cell 3
      have z3 := hSw.box.cell 4
      simp at z0 z1 z2 z3
      go_simp
    refine wpAnyH_take (i := 12) (v := .int .i64 pg) rfl (by kernel_rfl) (by kernel_rfl) (by kernel_rfl) (fun _ _ _ h => h) (Or.inl ⟨by kernel_rfl, ?_⟩) hHeld ?_
    · intro w' hSw
      have z0 := hSw.box.cell 1
      have z1 := hSw.box.cell 2
      have z2 := hSw.box.cell 3
      have z3 := hSw.box.cell 4
      simp at z0 z1 z2 z3
      go_simp
    refine wpAnyH_take (i := 13) (v := .pointer (some ⟨pb, 3, none⟩)) rfl (by kernel_rfl) (by kernel_rfl) (by kernel_rfl) (fun _ _ _ h => h) (Or.inl ⟨by kernel_rfl, ?_⟩) hHeld ?_
    · intro w' hSw
      have z0 := hSw.box.cell 1
      have z1 := hSw.box.cell 2
      have z2 := hSw.box.cell 3
      have z3 := hSw.box.cell 4
      simp at z0 z1 z2 z3
      go_simp
    refine wpAnyH_take (i := 14) (v := .slice A3 m3 c3) rfl (by kernel_rfl) (by kernel_rfl) (by kernel_rfl) (fun _ _ _ h => h) (Or.inl ⟨by kernel_rfl, ?_⟩) hHeld ?_
    · intro w' hSw
      have z0 := hSw.box.cell 1
      have z1 := hSw.box.cell 2
      have z2 := hSw.box.cell 3
      have z3 := hSw.box.cell 4
      simp at z0 z1 z2 z3
      go_simp
    try simp only [Act.put, List.setIfInBounds_toArray]
    refine wpAnyH_ready (rs := [7]) (by kernel_rfl) (by simp) ?_
    refine AllReadyH.cons rfl (fun K hK => ?_) AllReadyH.nil
    · go_simp
      refine (HO.out _ hHeld).mono ?_
      rintro e w2 ⟨⟨x, rfl⟩, hS2⟩
      refine hK.out _ _ hS2 (fun hHeld2 => ?_)
      try simp only [Act.put, List.setIfInBounds_toArray, List.set]
      refine wpAnyH_ready (rs := [15]) (by kernel_rfl) (by simp) ?_
      refine AllReadyH.cons rfl (fun K hK => ?_) AllReadyH.nil
      go_simp
      refine (HR.out _ hHeld2).mono ?_
      rintro e w3 ⟨⟨x2, rfl⟩, hS3⟩
      refine hK.out _ _ hS3 (fun hHeld3 => ?_)
      try simp only [Act.put, List.setIfInBounds_toArray, List.set]
      refine wpAnyH_ready (rs := [16]) (by kernel_rfl) (by simp) ?_
      refine AllReadyH.cons rfl (fun K hK => ?_) AllReadyH.nil
      go_simp
      refine hK.out _ _ hHeld3 (fun _ => ?_)
      try simp only [Act.put, List.setIfInBounds_toArray]
      refine wpAnyH_ready (rs := [17]) (by kernel_rfl) (by simp) ?_
      refine AllReadyH.cons rfl (fun K hK => ?_) AllReadyH.nil
      go_simp
      refine hK.out _ _ hHeld3 (fun _ => ?_)
      refine wpAnyH_done (by kernel_rfl) ?_ _
      go_wp2
      go_ret
      exact HFin.out _ _ _ _ hHeld3
  have t1 : (kd == 1) = false := beq_eq_false_iff_ne.2 k1
  by_cases k2 : kd = 2
  · have t2 : (kd == 2) = true := beq_iff_eq.2 k2
    have HO := Lib.hid (fun w2 (hS : TwS w X o c r (fun j => kd = 2 ∧ (j : Int) = bl) pb #[.int .i64 kd, .int .i64 bl, .int .i64 pg, .slice A3 m3 c3, .slice A4 m4 c4] w2) => own_erase bl (fun j e => ⟨k2, e⟩) w2 hS)
    have HR := Lib.hid (fun w2 (hS : TwS w X o c r (fun j => kd = 2 ∧ (j : Int) = bl) pb #[.int .i64 kd, .int .i64 bl, .int .i64 pg, .slice A3 m3 c3, .slice A4 m4 c4] w2) => ref_erase bl w2 hS)
    have hop : o.p = .pointer (some ⟨o.bc, 0, none⟩) := rfl
    rw [hop] at HO
    clear hop
    clear k2
    go_upto_region 5 with (fail)
    refine wp_region_held_drew (S := TwS w X o c r (fun j => kd = 2 ∧ (j : Int) = bl) pb #[.int .i64 kd, .int .i64 bl, .int .i64 pg, .slice A3 m3 c3, .slice A4 m4 c4]) (by kernel_rfl) (HS0.out.below (Below.refl _ _).drew) (fun hHeld => ?_)
    refine wpAnyH_take (i := 0) (v := .pointer (some ⟨o.bc, 0, none⟩)) rfl (by kernel_rfl) (by kernel_rfl) (by kernel_rfl) (fun _ _ _ h => h) (Or.inl ⟨by kernel_rfl, ?_⟩) hHeld ?_
    · intro w' hSw
      have z0 := hSw.box.cell 1
      have z1 := hSw.box.cell 2
      have z2 := hSw.box.cell 3
      have z3 := hSw.box.cell 4
      simp at z0 z1 z2 z3
      go_simp
    refine wpAnyH_take (i := 1) (v := .pointer (some ⟨pb, 1, none⟩)) rfl (by kernel_rfl) (by kernel_rfl) (by kernel_rfl) (fun _ _ _ h => h) (Or.inl ⟨by kernel_rfl, ?_⟩) hHeld ?_
    · intro w' hSw
      have z0 := hSw.box.cell 1
      have z1 := hSw.box.cell 2
      have z2 := hSw.box.cell 3
      have z3 := hSw.box.cell 4
      simp at z0 z1 z2 z3
      go_simp
    refine wpAnyH_take (i := 2) (v := .int .i64 bl) rfl (by kernel_rfl) (by kernel_rfl) (by kernel_rfl) (fun _ _ _ h => h) (Or.inl ⟨by kernel_rfl, ?_⟩) hHeld ?_
    · intro w' hSw
      have z0 := hSw.box.cell 1
      have z1 := hSw.box.cell 2
      have z2 := hSw.box.cell 3
      have z3 := hSw.box.cell 4
      simp at z0 z1 z2 z3
      go_simp
    refine wpAnyH_take (i := 4) (v := .pointer (some ⟨r.g, 0, none⟩)) rfl (by kernel_rfl) (by kernel_rfl) (by kernel_rfl) (fun _ _ _ h => h) (Or.inl ⟨by kernel_rfl, ?_⟩) hHeld ?_
    · intro w' hSw
      have z0 := hSw.box.cell 1
      have z1 := hSw.box.cell 2
      have z2 := hSw.box.cell 3
      have z3 := hSw.box.cell 4
      simp at z0 z1 z2 z3
      go_simp
    refine wpAnyH_take (i := 5) (v := .pointer (some ⟨pb, 1, none⟩)) rfl (by kernel_rfl) (by kernel_rfl) (by kernel_rfl) (fun _ _ _ h => h) (Or.inl ⟨by kernel_rfl, ?_⟩) hHeld ?_
    · intro w' hSw
      have z0 := hSw.box.cell 1
      have z1 := hSw.box.cell 2
      have z2 := hSw.box.cell 3
      have z3 := hSw.box.cell 4
      simp at z0 z1 z2 z3
      go_simp
    refine wpAnyH_take (i := 6) (v := .int .i64 bl) rfl (by kernel_rfl) (by kernel_rfl) (by kernel_rfl) (fun _ _ _ h => h) (Or.inl ⟨by kernel_rfl, ?_⟩) hHeld ?_
    · intro w' hSw
      have z0 := hSw.box.cell 1
      have z1 := hSw.box.cell 2
      have z2 := hSw.box.cell 3
      have z3 := hSw.box.cell 4
      simp at z0 z1 z2 z3
      go_simp
    try simp only [Act.put, List.setIfInBounds_toArray]
    refine wpAnyH_ready (rs := [3]) (by kernel_rfl) (by simp) ?_
    refine AllReadyH.cons rfl (fun K hK => ?_) AllReadyH.nil
    · go_simp
      refine (HO.out _ hHeld).mono ?_
      rintro e w2 ⟨⟨x, rfl⟩, hS2⟩
      refine hK.out _ _ hS2 (fun hHeld2 => ?_)
      try simp only [Act.put, List.setIfInBounds_toArray, List.set]
      refine wpAnyH_ready (rs := [7]) (by kernel_rfl) (by simp) ?_
      refine AllReadyH.cons rfl (fun K hK => ?_) AllReadyH.nil
      go_simp
      refine (HR.out _ hHeld2).mono ?_
      rintro e w3 ⟨⟨x2, rfl⟩, hS3⟩
      refine hK.out _ _ hS3 (fun hHeld3 => ?_)
      try simp only [Act.put, List.setIfInBounds_toArray, List.set]
      refine wpAnyH_ready (rs := [8]) (by kernel_rfl) (by simp) ?_
      refine AllReadyH.cons rfl (fun K hK => ?_) AllReadyH.nil
      go_simp
      refine hK.out _ _ hHeld3 (fun _ => ?_)
      try simp only [Act.put, List.setIfInBounds_toArray]
      refine wpAnyH_ready (rs := [9]) (by kernel_rfl) (by simp) ?_
      refine AllReadyH.cons rfl (fun K hK => ?_) AllReadyH.nil
      go_simp
      refine hK.out _ _ hHeld3 (fun _ => ?_)
      refine wpAnyH_done (by kernel_rfl) ?_ _
      go_wp2
      go_ret
      exact HFin.out _ _ _ _ hHeld3
  have t2 : (kd == 2) = false := beq_eq_false_iff_ne.2 k2
  by_cases k3 : kd = 3
  · have t3 : (kd == 3) = true := beq_iff_eq.2 k3
    have HO := Lib.hid (fun w2 (hS : TwS w X o c r (fun j => kd = 2 ∧ (j : Int) = bl) pb #[.int .i64 kd, .int .i64 bl, .int .i64 pg, .slice A3 m3 c3, .slice A4 m4 c4] w2) => own_mark bl w2 hS)
    have HR := Lib.hid (fun w2 (hS : TwS w X o c r (fun j => kd = 2 ∧ (j : Int) = bl) pb #[.int .i64 kd, .int .i64 bl, .int .i64 pg, .slice A3 m3 c3, .slice A4 m4 c4] w2) => ref_mark bl w2 hS)
    have hop : o.p = .pointer (some ⟨o.bc, 0, none⟩) := rfl
    rw [hop] at HO
    clear hop
    clear k3
    go_upto_region 7 with (fail)
    refine wp_region_held_drew (S := TwS w X o c r (fun j => kd = 2 ∧ (j : Int) = bl) pb #[.int .i64 kd, .int .i64 bl, .int .i64 pg, .slice A3 m3 c3, .slice A4 m4 c4]) (by kernel_rfl) (HS0.out.below (Below.refl _ _).drew) (fun hHeld => ?_)
    refine wpAnyH_take (i := 0) (v := .pointer (some ⟨o.bc, 0, none⟩)) rfl (by kernel_rfl) (by kernel_rfl) (by kernel_rfl) (fun _ _ _ h => h) (Or.inl ⟨by kernel_rfl, ?_⟩) hHeld ?_
    · intro w' hSw
      have z0 := hSw.box.cell 1
      have z1 := hSw.box.cell 2
      have z2 := hSw.box.cell 3
      have z3 := hSw.box.cell 4
      simp at z0 z1 z2 z3
      go_simp
    refine wpAnyH_take (i := 1) (v := .pointer (some ⟨pb, 1, none⟩)) rfl (by kernel_rfl) (by kernel_rfl) (by kernel_rfl) (fun _ _ _ h => h) (Or.inl ⟨by kernel_rfl, ?_⟩) hHeld ?_
    · intro w' hSw
      have z0 := hSw.box.cell 1
      have z1 := hSw.box.cell 2
      have z2 := hSw.box.cell 3
      have z3 := hSw.box.cell 4
      simp at z0 z1 z2 z3
      go_simp
    refine wpAnyH_take (i := 2) (v := .int .i64 bl) rfl (by kernel_rfl) (by kernel_rfl) (by kernel_rfl) (fun _ _ _ h => h) (Or.inl ⟨by kernel_rfl, ?_⟩) hHeld ?_
    · intro w' hSw
      have z0 := hSw.box.cell 1
      have z1 := hSw.box.cell 2
      have z2 := hSw.box.cell 3
      have z3 := hSw.box.cell 4
      simp at z0 z1 z2 z3
      go_simp
    refine wpAnyH_take (i := 4) (v := .pointer (some ⟨r.g, 0, none⟩)) rfl (by kernel_rfl) (by kernel_rfl) (by kernel_rfl) (fun _ _ _ h => h) (Or.inl ⟨by kernel_rfl, ?_⟩) hHeld ?_
    · intro w' hSw
      have z0 := hSw.box.cell 1
      have z1 := hSw.box.cell 2
      have z2 := hSw.box.cell 3
      have z3 := hSw.box.cell 4
      simp at z0 z1 z2 z3
      go_simp
    refine wpAnyH_take (i := 5) (v := .pointer (some ⟨pb, 1, none⟩)) rfl (by kernel_rfl) (by kernel_rfl) (by kernel_rfl) (fun _ _ _ h => h) (Or.inl ⟨by kernel_rfl, ?_⟩) hHeld ?_
    · intro w' hSw
      have z0 := hSw.box.cell 1
      have z1 := hSw.box.cell 2
      have z2 := hSw.box.cell 3
      have z3 := hSw.box.cell 4
      simp at z0 z1 z2 z3
      go_simp
    refine wpAnyH_take (i := 6) (v := .int .i64 bl) rfl (by kernel_rfl) (by kernel_rfl) (by kernel_rfl) (fun _ _ _ h => h) (Or.inl ⟨by kernel_rfl, ?_⟩) hHeld ?_
    · intro w' hSw
      have z0 := hSw.box.cell 1
      have z1 := hSw.box.cell 2
      have z2 := hSw.box.cell 3
      have z3 := hSw.box.cell 4
      simp at z0 z1 z2 z3
      go_simp
    try simp only [Act.put, List.setIfInBounds_toArray]
    refine wpAnyH_ready (rs := [3]) (by kernel_rfl) (by simp) ?_
    refine AllReadyH.cons rfl (fun K hK => ?_) AllReadyH.nil
    · go_simp
      refine (HO.out _ hHeld).mono ?_
      rintro e w2 ⟨⟨x, rfl⟩, hS2⟩
      refine hK.out _ _ hS2 (fun hHeld2 => ?_)
      try simp only [Act.put, List.setIfInBounds_toArray, List.set]
      refine wpAnyH_ready (rs := [7]) (by kernel_rfl) (by simp) ?_
      refine AllReadyH.cons rfl (fun K hK => ?_) AllReadyH.nil
      go_simp
      refine (HR.out _ hHeld2).mono ?_
      rintro e w3 ⟨⟨x2, rfl⟩, hS3⟩
      refine hK.out _ _ hS3 (fun hHeld3 => ?_)
      try simp only [Act.put, List.setIfInBounds_toArray, List.set]
      refine wpAnyH_ready (rs := [8]) (by kernel_rfl) (by simp) ?_
      refine AllReadyH.cons rfl (fun K hK => ?_) AllReadyH.nil
      go_simp
      refine hK.out _ _ hHeld3 (fun _ => ?_)
      try simp only [Act.put, List.setIfInBounds_toArray]
      refine wpAnyH_ready (rs := [9]) (by kernel_rfl) (by simp) ?_
      refine AllReadyH.cons rfl (fun K hK => ?_) AllReadyH.nil
      go_simp
      refine hK.out _ _ hHeld3 (fun _ => ?_)
      refine wpAnyH_done (by kernel_rfl) ?_ _
      go_wp2
      go_ret
      exact HFin.out _ _ _ _ hHeld3
  have t3 : (kd == 3) = false := beq_eq_false_iff_ne.2 k3
  by_cases k4 : kd = 4
  · have t4 : (kd == 4) = true := beq_iff_eq.2 k4
    have HO := Lib.hid (fun w2 (hS : TwS w X o c r (fun j => kd = 2 ∧ (j : Int) = bl) pb #[.int .i64 kd, .int .i64 bl, .int .i64 pg, .slice A3 m3 c3, .slice A4 m4 c4] w2) => own_read bl pg w2 hS)
    have HR := Lib.hid (fun w2 (hS : TwS w X o c r (fun j => kd = 2 ∧ (j : Int) = bl) pb #[.int .i64 kd, .int .i64 bl, .int .i64 pg, .slice A3 m3 c3, .slice A4 m4 c4] w2) => ref_read bl pg w2 hS)
    have hop : o.p = .pointer (some ⟨o.bc, 0, none⟩) := rfl
    rw [hop] at HO
    clear hop k4
    go_wp2_with fail
    refine (HO.out _ HS0.out).mono ?_
    rintro e w2 ⟨⟨a, cc, l, x, rfl, hcc, hr⟩, hS2⟩
    have z1 : w2.cell? ⟨pb, 1, none⟩ = some (.int .i64 bl) := hS2.box.cell 1
    have z2 : w2.cell? ⟨pb, 2, none⟩ = some (.int .i64 pg) := hS2.box.cell 2
    have HS2 := Lib.hid hS2
    have HRr := Lib.hid hr
    obtain ⟨n1, hn1⟩ : ∃ n, l.length = n := ⟨_, rfl⟩
    have HN1 := Lib.hid hn1
    rw [hn1]
    clear hS2 hr hcc hn1
    go_wp2_with fail
    refine (HR.out _ HS2.out).mono ?_
    rintro e w3 ⟨⟨a2, cc2, l2, x2, rfl, hcc2, hr2⟩, hS3, hk3⟩
    obtain ⟨n2, hn2⟩ : ∃ n, l2.length = n := ⟨_, rfl⟩
    rw [hn2]
    have HSa := Lib.hid (same_any a a2 cc cc2 n1 n2 l l2 w3 (HRr.out.kp hk3 (fun _ g => g)).1 hr2 HN1.out hn2)
    have HS3 := Lib.hid hS3
    clear hS3 hk3 hr2 hcc2 hn2 z1 z2
    go_wp2_with fail
    refine HSa.out.mono ?_
    rintro e w' ⟨rfl, rfl⟩
    cases decide (l = l2)
    · go_wp2
      go_ret
      exact HFin.out _ _ _ _ HS3.out
    · go_wp2
      go_ret
      exact HFin.out _ _ _ _ HS3.out
  have t4 : (kd == 4) = false := beq_eq_false_iff_ne.2 k4
  by_cases k5 : kd = 5
  · have t5 : (kd == 5) = true := beq_iff_eq.2 k5
    have HO := Lib.hid (fun w2 (hS : TwS w X o c r (fun j => kd = 2 ∧ (j : Int) = bl) pb #[.int .i64 kd, .int .i64 bl, .int .i64 pg, .slice A3 m3 c3, .slice A4 m4 c4] w2) => own_lose w2 hS)
    have hop : o.p = .pointer (some ⟨o.bc, 0, none⟩) := rfl
    rw [hop] at HO
    clear hop k5
    go_wp2_with fail
    refine (HO.out _ HS0.out).mono ?_
    rintro e w2 ⟨rfl, hS2⟩
    obtain ⟨⟨dn, z10⟩, zf, hS3⟩ := ref_down true _ hS2
    have HS3 := Lib.hid hS3
    clear hS2 hS3
    go_wp2
    go_ret
    exact HFin.out _ _ _ _ HS3.out
  have t5 : (kd == 5) = false := beq_eq_false_iff_ne.2 k5
  by_cases k6 : kd = 6
  · have t6 : (kd == 6) = true := beq_iff_eq.2 k6
    have HO := Lib.hid (fun w2 (hS : TwS w X o c r (fun j => kd = 2 ∧ (j : Int) = bl) pb #[.int .i64 kd, .int .i64 bl, .int .i64 pg, .slice A3 m3 c3, .slice A4 m4 c4] w2) => own_start w2 hS)
    have hop : o.p = .pointer (some ⟨o.bc, 0, none⟩) := rfl
    rw [hop] at HO
    clear hop k6
    go_wp2_with fail
    refine (HO.out _ HS0.out).mono ?_
    rintro e w2 ⟨rfl, hS2⟩
    obtain ⟨⟨dn, z10⟩, zf, hS3⟩ := ref_down false _ hS2
    have HS3 := Lib.hid hS3
    clear hS2 hS3
    go_wp2
    go_ret
    exact HFin.out _ _ _ _ HS3.out
  have t6 : (kd == 6) = false := beq_eq_false_iff_ne.2 k6
  by_cases k7 : kd = 7
  · have t7 : (kd == 7) = true := beq_iff_eq.2 k7
    have hs1 : (fl.length : Int) ≤ 9000 := HSm.out.2.1
    have hs2 := HL4.out
    have HO := Lib.hid (fun w2 (hS : TwS w X o c r (fun j => kd = 2 ∧ (j : Int) = bl) pb #[.int .i64 kd, .int .i64 bl, .int .i64 pg, .slice A3 m3 c3, .slice A4 m4 c4] w2) => own_script A4 m4 c4 fl HF.out HL4.out (by omega) (fun f hf => by have := HSm.out.2.2 f hf; omega) w2 hS)
    have HR := Lib.hid (fun w2 (hS : TwS w X o c r (fun j => kd = 2 ∧ (j : Int) = bl) pb #[.int .i64 kd, .int .i64 bl, .int .i64 pg, .slice A3 m3 c3, .slice A4 m4 c4] w2) => ref_script A4 m4 c4 fl HF.out w2 hS)
    have hop : o.p = .pointer (some ⟨o.bc, 0, none⟩) := rfl
    rw [hop] at HO
    clear hop hs1 hs2
    clear k7
    go_upto_region 19 with (fail)
    refine wp_region_held_drew (S := TwS w X o c r (fun j => kd = 2 ∧ (j : Int) = bl) pb #[.int .i64 kd, .int .i64 bl, .int .i64 pg, .slice A3 m3 c3, .slice A4 m4 c4]) (by kernel_rfl) (HS0.out.below (Below.refl _ _).drew) (fun hHeld => ?_)
    refine wpAnyH_take (i := 0) (v := .pointer (some ⟨o.bc, 0, none⟩)) rfl (by kernel_rfl) (by kernel_rfl) (by kernel_rfl) (fun _ _ _ h => h) (Or.inl ⟨by kernel_rfl, ?_⟩) hHeld ?_
    · intro w' hSw
      have z0 := hSw.box.cell 1
      have z1 := hSw.box.cell 2
      have z2 := hSw.box.cell 3
      have z3 := hSw.box.cell 4
      simp at z0 z1 z2 z3
      go_simp
    refine wpAnyH_take (i := 1) (v := .pointer (some ⟨pb, 4, none⟩)) rfl (by kernel_rfl) (by kernel_rfl) (by kernel_rfl) (fun _ _ _ h => h) (Or.inl ⟨by kernel_rfl, ?_⟩) hHeld ?_
    · intro w' hSw
      have z0 := hSw.box.cell 1
      have z1 := hSw.box.cell 2
      have z2 := hSw.box.cell 3
      have z3 := hSw.box.cell 4
      simp at z0 z1 z2 z3
      go_simp
    refine wpAnyH_take (i := 2) (v := .slice A4 m4 c4) rfl (by kernel_rfl) (by kernel_rfl) (by kernel_rfl) (fun _ _ _ h => h) (Or.inl ⟨by kernel_rfl, ?_⟩) hHeld ?_
    · intro w' hSw
      have z0 := hSw.box.cell 1
      have z1 := hSw.box.cell 2
      have z2 := hSw.box.cell 3
      have z3 := hSw.box.cell 4
      simp at z0 z1 z2 z3
      go_simp
    refine wpAnyH_take (i := 4) (v := .pointer (some ⟨r.g, 0, none⟩)) rfl (by kernel_rfl) (by kernel_rfl) (by kernel_rfl) (fun _ _ _ h => h) (Or.inl ⟨by kernel_rfl, ?_⟩) hHeld ?_
    · intro w' hSw
      have z0 := hSw.box.cell 1
      have z1 := hSw.box.cell 2
      have z2 := hSw.box.cell 3
      have z3 := hSw.box.cell 4
      simp at z0 z1 z2 z3
      go_simp
    refine wpAnyH_take (i := 5) (v := .pointer (some ⟨pb, 4, none⟩)) rfl (by kernel_rfl) (by kernel_rfl) (by kernel_rfl) (fun _ _ _ h => h) (Or.inl ⟨by kernel_rfl, ?_⟩) hHeld ?_
    · intro w' hSw
      have z0 := hSw.box.cell 1
      have z1 := hSw.box.cell 2
      have z2 := hSw.box.cell 3
      have z3 := hSw.box.cell 4
      simp at z0 z1 z2 z3
      go_simp
    refine wpAnyH_take (i := 6) (v := .slice A4 m4 c4) rfl (by kernel_rfl) (by kernel_rfl) (by kernel_rfl) (fun _ _ _ h => h) (Or.inl ⟨by kernel_rfl, ?_⟩) hHeld ?_
    · intro w' hSw
      have z0 := hSw.box.cell 1
      have z1 := hSw.box.cell 2
      have z2 := hSw.box.cell 3
      have z3 := hSw.box.cell 4
      simp at z0 z1 z2 z3
      go_simp
    try simp only [Act.put, List.setIfInBounds_toArray]
    refine wpAnyH_ready (rs := [3]) (by kernel_rfl) (by simp) ?_
    refine AllReadyH.cons rfl (fun K hK => ?_) AllReadyH.nil
    · go_simp
      refine (HO.out _ hHeld).mono ?_
      rintro e w2 ⟨⟨x, rfl⟩, hS2⟩
      refine hK.out _ _ hS2 (fun hHeld2 => ?_)
      try simp only [Act.put, List.setIfInBounds_toArray, List.set]
      refine wpAnyH_ready (rs := [7]) (by kernel_rfl) (by simp) ?_
      refine AllReadyH.cons rfl (fun K hK => ?_) AllReadyH.nil
      go_simp
      refine (HR.out _ hHeld2).mono ?_
      rintro e w3 ⟨⟨x2, rfl⟩, hS3⟩
      refine hK.out _ _ hS3 (fun hHeld3 => ?_)
      try simp only [Act.put, List.setIfInBounds_toArray, List.set]
      refine wpAnyH_ready (rs := [8]) (by kernel_rfl) (by simp) ?_
      refine AllReadyH.cons rfl (fun K hK => ?_) AllReadyH.nil
      go_simp
      refine hK.out _ _ hHeld3 (fun _ => ?_)
      try simp only [Act.put, List.setIfInBounds_toArray]
      refine wpAnyH_ready (rs := [9]) (by kernel_rfl) (by simp) ?_
      refine AllReadyH.cons rfl (fun K hK => ?_) AllReadyH.nil
      go_simp
      refine hK.out _ _ hHeld3 (fun _ => ?_)
      refine wpAnyH_done (by kernel_rfl) ?_ _
      go_wp2
      go_ret
      exact HFin.out _ _ _ _ hHeld3
  have t7 : (kd == 7) = false := beq_eq_false_iff_ne.2 k7
  go_wp2
  go_ret
  exact HFin.out _ _ _ _ HS0.out

end Go.Proofs.Ytpckphleikpioaa
