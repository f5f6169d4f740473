/-
  The document's chip in memory: a stroke is counted and its fault told.
-/
import Derived.Test.YtiaaeiefgnoiaaaRefRead
import Derived.Test.YtiaaeiefgnoiaaaNandStroke
namespace Go.Proofs.Ytiaaeiefgnoiaaa
open Go.RowKit Crcm Go.ChangeShapes

theorem BvX.widen {w w' : World} {X X' : Nat → Prop} {v : Value} (h : BvX w X v) (hb : Below w.heap.size w w') (hX : ∀ b, X' b → X b ∨ w.heap.size ≤ b) : BvX w' X' v := by
  obtain ⟨A, l, c, h1, h2, h3⟩ := h
  exact ⟨A, l, c, h1, h2, h3.widen hb hX⟩
theorem BvX.narrow {w : World} {X X' : Nat → Prop} {v : Value} (h : BvX w X' v) (hI : ∀ b, X b → X' b) : BvX w X v := by
  obtain ⟨A, l, c, h1, h2, h3⟩ := h
  exact ⟨A, l, c, h1, h2, h3.narrow hI⟩
theorem RcAt.widen {w w' : World} {X X' : Nat → Prop} {o : Rb} {nb np sz : Nat} {dn : Bool} (h : RcAt w X o nb np sz dn) (hb : Below w.heap.size w w') (hX : ∀ b, X' b → X b ∨ w.heap.size ≤ b) (hO : ∀ b, X' b → b < w'.heap.size) (hI : ∀ b, X b → X' b) : RcAt w' X' o nb np sz dn := by
  refine ⟨h.good, hO, fun b hb => hI _ (h.inX b hb), h.ne, ?_, ?_, ?_, ?_, ?_, ?_⟩
  · obtain ⟨fv, fl, si, st, rd, h1, h2⟩ := h.chip
    exact ⟨fv, fl, si, st, rd, h1.below hb h1.lt, h2.widen hb hX⟩
  · obtain ⟨cs, h1, h2, h3⟩ := h.pages
    exact ⟨cs, h1.below hb h1.lt, h2, fun i hi => (h3 i hi).imp fun v hv => ⟨hv.1, hv.2.widen hb hX⟩⟩
  · obtain ⟨cs, h1, h2⟩ := h.next
    exact ⟨cs, h1.below hb h1.lt, h2⟩
  · obtain ⟨cs, h1, h2⟩ := h.broken
    exact ⟨cs, h1.below hb h1.lt, h2⟩
  · obtain ⟨cs, h1, h2⟩ := h.bad
    exact ⟨cs, h1.below hb h1.lt, h2⟩
  · obtain ⟨cs, h1, h2⟩ := h.wear
    exact ⟨cs, h1.below hb h1.lt, h2⟩
theorem RcAt.narrow {w : World} {X X' : Nat → Prop} {o : Rb} {nb np sz : Nat} {dn : Bool} (h : RcAt w X' o nb np sz dn) (hI : ∀ b, X b → X' b) (hF : ∀ b, o.F b → X b) : RcAt w X o nb np sz dn := by
  refine ⟨h.good, fun b hb => h.old b (hI b hb), hF, h.ne, ?_, ?_, h.next, h.broken, h.bad, h.wear⟩
  · obtain ⟨fv, fl, si, st, rd, h1, h2⟩ := h.chip
    exact ⟨fv, fl, si, st, rd, h1, h2.narrow hI⟩
  · obtain ⟨cs, h1, h2, h3⟩ := h.pages
    exact ⟨cs, h1, h2, fun i hi => (h3 i hi).imp fun v hv => ⟨hv.1, hv.2.narrow hI⟩⟩

theorem kp_three {F : Nat → Prop} {a w : World} (h : Kp F a w) {g : Nat} (hg : F g ∨ a.heap.size ≤ g) (x y z : Value) : Kp F a (((w.setCell ⟨g, 0, none⟩ x).setCell ⟨g, 1, none⟩ y).setCell ⟨g, 2, none⟩ z) :=
  Kp.setCell (p := ⟨g, 2, none⟩) (Kp.setCell (p := ⟨g, 1, none⟩) (Kp.setCell (p := ⟨g, 0, none⟩) h hg x) hg y) hg z
/-- what a call of stroke comes to -/
def RStP (w : World) (X : Nat → Prop) (o : Rb) (nb np sz : Nat) (dn : Bool) (e : Ending) (w' : World) : Prop :=
  (∃ (f : Fl) (da : Option Addr) (dc : Nat), e = .returned (.agg #[.int .i64 f.at', .int .i64 f.kind, .slice da f.data.length dc]) ∧ RwX w' X da f.data ∧ f.data.length ≤ dc) ∧ RcAt w' X o nb np sz dn ∧ Kp o.F w w'
theorem rstroke_done {WF : World} {tm : Array Value} {g : Nat} {x y z : Value} {Q : Ending → World → Prop} (hb : Blk WF g 66 #[x, y, z]) (ht : tm[2]?.getD undef = .pointer (some ⟨g, 0, none⟩)) (hq : Q (.returned (.agg #[x, y, z])) WF) :
    bodyPost Try.prog Try.f61 Q Exit.ret ⟨tm, []⟩ WF := by
  have c0 : WF.cell? ⟨g, 0, none⟩ = some x := hb.cell 0
  have c1 : WF.cell? ⟨g, 1, none⟩ = some y := hb.cell 1
  have c2 : WF.cell? ⟨g, 2, none⟩ = some z := hb.cell 2
  exact bodyPost_ret (v := .agg #[x, y, z]) (by simp [results, Try.results61, go_sem, ht, c0, c1, c2]) rfl hq
theorem rstroke_last {w W2 WF : World} {X : Nat → Prop} {o : Rb} {nb np sz : Nat} {dn : Bool} {g : Nat} {f : Fl} {da : Option Addr} {dc : Nat} {tm : Array Value} (h2 : RcAt W2 (fun b => X b ∨ b = g) o nb np sz dn)
    (hX : ∀ b, X b → b < g) (hF : ∀ b, o.F b → X b) (hr : RwX W2 (fun b => X b ∨ b = g) da f.data) (hd : f.data.length ≤ dc)
    (ht : tm[2]?.getD undef = .pointer (some ⟨g, 0, none⟩)) (hb : Blk WF g 66 #[.int .i64 f.at', .int .i64 f.kind, .slice da f.data.length dc]) (hk : Kp (fun b => b = g) W2 WF) (hk2 : Kp o.F w WF) :
    bodyPost Try.prog Try.f61 (RStP w X o nb np sz dn) Exit.ret ⟨tm, []⟩ WF := by
  refine rstroke_done hb ht ⟨⟨f, da, dc, rfl, (hr.kp hk (fun _ e => .inr e)).narrow (fun _ h => .inl h), hd⟩, ?_, hk2⟩
  exact (h2.kp hk (fun _ e => .inr e) (fun b hb e => by have := hX b (hF b hb); omega)).narrow (fun _ h => .inl h) hF

set_option maxRecDepth 100000 in
set_option maxHeartbeats 1000000 in
theorem rstroke_any {w : World} {X : Nat → Prop} {o : Rb} {nb np sz : Nat} {dn : Bool} (h : RcAt w X o nb np sz dn) :
    Calls Try.prog 61 #[.pointer (some ⟨o.g, 0, none⟩)] w (RStP w X o nb np sz dn) := by
  have hXl : Hid (∀ b, X b → b < w.heap.size) := Lib.hid h.old
  have hFX : Hid (∀ b, o.F b → X b) := Lib.hid h.inX
  have hbl : o.g < w.heap.size := h.geo.2.2.2.2
  obtain ⟨fv0, fl0, si, st, rd, hb0, -⟩ := h.chip
  have c9 : w.cell? ⟨o.g, 9, none⟩ = some (.int .i64 si) := hb0.cell 9
  have c11 : w.cell? ⟨o.g, 11, none⟩ = some (.int .i64 st) := hb0.cell 11
  have f9 := hb0.frozen 9
  have f11 := hb0.frozen 11
  have hu := (h.puts (wrap64 (si + 1))).putt (wrap64 (st + 1))
  have K1 := kp_set (i := 11) (u := .int .i64 (wrap64 (st + 1))) (q := o.g) (kp_set (i := 9) (u := .int .i64 (wrap64 (si + 1))) (Kp.refl o.F w) (q := o.g) (.inl rfl)) (.inl rfl)
  have hz : ((w.setCell ⟨o.g, 9, none⟩ (.int .i64 (wrap64 (si + 1)))).setCell ⟨o.g, 11, none⟩ (.int .i64 (wrap64 (st + 1)))).heap.size = w.heap.size := by simp [World.setCell]
  have K2 := Lib.hid (K1.alloc (.cells #[.int .i64 0, .int .i64 0, .slice none 0 0] 66))
  have H2 := Lib.hid (hu.widen (X' := fun b => X b ∨ b = w.heap.size) ((Below.refl _ _).alloc (Nat.le_refl _) (.cells #[.int .i64 0, .int .i64 0, .slice none 0 0] 66)) (fun b hb => hb.elim .inl fun e => .inr (by omega)) (fun b hb => by
    have hz2 : ∀ ob, (((w.setCell ⟨o.g, 9, none⟩ (.int .i64 (wrap64 (si + 1)))).setCell ⟨o.g, 11, none⟩ (.int .i64 (wrap64 (st + 1)))).alloc ob).heap.size = w.heap.size + 1 := fun ob => by simp [World.setCell]
    rw [hz2]
    rcases hb with hb | hb
    · have := hXl.out b hb; omega
    · omega) (fun b hb => .inl hb))
  have B2 := Lib.hid (Blk.new ((w.setCell ⟨o.g, 9, none⟩ (.int .i64 (wrap64 (si + 1)))).setCell ⟨o.g, 11, none⟩ (.int .i64 (wrap64 (st + 1)))) 66 #[.int .i64 0, .int .i64 0, .slice none 0 0])
  rw [hz] at B2
  clear hu K1 hz
  clear h hb0
  go_enter Try.func61, Try.ntmps61
  go_wp2_with fail
  clear c9 c11 f9 f11
  generalize (((w.setCell ⟨o.g, 9, none⟩ (.int .i64 (wrap64 (si + 1)))).setCell ⟨o.g, 11, none⟩ (.int .i64 (wrap64 (st + 1)))).alloc (.cells #[.int .i64 0, .int .i64 0, .slice none 0 0] 66)) = W2 at H2 K2 B2 ⊢
  generalize hg : w.heap.size = g at H2 B2 hXl hbl ⊢
  have HWS := Lib.hid (show w.heap.size ≤ g by omega)
  clear hg
  obtain ⟨fv, fl, si2, st2, rd2, hbk, a, cap, rfl, hm, hrow⟩ := H2.out.chip
  have c8 : W2.cell? ⟨o.g, 8, none⟩ = some (.slice a fl.length cap) := hbk.cell 8
  obtain ⟨n, hn⟩ : ∃ n, fl.length = n := ⟨_, rfl⟩
  have hlen : n ≤ 9223372036854775807 := by have : fl.length ≤ maxLen := hm; unfold maxLen at this; omega
  have HRow := Lib.hid hrow
  have HN := Lib.hid hn
  rw [hn] at c8
  clear hbk hm hrow hn
  have x0 : W2.cell? ⟨g, 0, none⟩ = some (.int .i64 0) := B2.out.cell 0
  have x1 : W2.cell? ⟨g, 1, none⟩ = some (.int .i64 0) := B2.out.cell 1
  have x2 : W2.cell? ⟨g, 2, none⟩ = some (.slice none 0 0) := B2.out.cell 2
  have z0 := fun i => B2.out.frozen i
  go_loop [4] (fun i => ∃ k : Nat, k ≤ n ∧ i = .int .i64 k) (fun i => n - (intOf i).toNat)
  case atStart => exact ⟨0, by omega, rfl⟩
  case round =>
    obtain ⟨k, hk, rfl⟩ := hrel
    by_cases hlt : k < n
    · have kl : (k : Int) < (n : Int) := by omega
      have hkl : k < fl.length := by rw [HN.out]; exact hlt
      rcases HRow.out with h0 | ⟨b, off, rfl, -, hcs⟩
      · rw [h0] at hkl; simp at hkl
      obtain ⟨q0, q1, da, dc, q2, hr, hd⟩ := hcs k hkl
      have HDr := Lib.hid hr
      have HDl := Lib.hid hd
      generalize fl[k] = f at q0 q1 q2 HDr HDl
      clear hcs hkl hr hd
      by_cases hz : f.at' = si
      · have t0 : (f.at' == si) = true := beq_iff_eq.2 hz
        clear hz
        go_wp2
        refine rstroke_last H2.out hXl.out hFX.out HDr.out HDl.out rfl (Blk.put3 B2.out) ?_ ?_
        · exact kp_three (Kp.refl (fun b => b = g) W2) (.inl rfl) _ _ _
        · exact kp_three K2.out (.inr HWS.out) _ _ _
      · have t0 : (f.at' == si) = false := beq_eq_false_iff_ne.2 hz
        clear hz HDr HDl
        go_wp2
        go_round
        case rel => exact ⟨k + 1, by omega, by go_num⟩
        case measure => simp [intOf]; omega
    · have kl : ¬ (k : Int) < (n : Int) := by omega
      go_wp2
      refine rstroke_last (f := ⟨0, 0, []⟩) H2.out hXl.out hFX.out (RwX.nil (a := none)) (Nat.le_refl 0) rfl (Blk.put3 B2.out) ?_ ?_
      · exact kp_three (Kp.refl (fun b => b = g) W2) (.inl rfl) _ _ _
      · exact kp_three K2.out (.inr HWS.out) _ _ _

end Go.Proofs.Ytiaaeiefgnoiaaa
