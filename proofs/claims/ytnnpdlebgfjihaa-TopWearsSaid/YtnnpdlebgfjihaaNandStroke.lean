/-
  A stroke of a chip: the next page of a block, the fault that belongs to a stroke, how it ends. Nothing of one statement alone stands here.
-/
import Derived.Test.YtnnpdlebgfjihaaNandPut
import Derived.WalkMore
namespace Go.Proofs.Ytnnpdlebgfjihaa
open Go.RowKit Crcm Go.ChangeShapes

/-- the first page behind all that are programmed -/
def nx (f : Nat → Option (List Int)) : Nat → Nat
  | 0 => 0
  | n + 1 => if (f n).isSome then n + 1 else nx f n

set_option maxRecDepth 100000 in
set_option maxHeartbeats 1000000 in
theorem pnext_any {w : World} {X : Nat → Prop} {o : Own} {c : Ch} (h : ChAt w X o c) (k : Nat) (hk : k < c.nb) :
    Calls Try.prog 74 #[o.q k] w fun e w' => e = .returned (.int .i64 (nx (c.pg k) c.np : Nat)) ∧ w = w' := by
  obtain ⟨b0, -⟩ := h.bcell hk
  have en := fun W a n c => Lib.run_eql_slice_nil (P := Try.prog) W 39 5 a n c 0 0 Try.underlying39
  have HP := Lib.hid (fun i hi => h.pcell (k := k) (i := i) hk hi)
  have hg := h.good
  unfold Gd at hg
  have np1 : c.np ≤ 40 := by omega
  clear h hk hg
  go_enter Try.func74, Try.ntmps74
  go_wp2_with fail
  go_loop [3] (fun i => ∃ j : Nat, j ≤ c.np ∧ i = .int .i64 j ∧ Hid (nx (c.pg k) c.np = nx (c.pg k) j)) (fun i => (intOf i).toNat)
  case atStart => exact ⟨c.np, Nat.le_refl _, rfl, Lib.hid rfl⟩
  case round =>
    obtain ⟨j, hj, rfl, hN⟩ := hrel
    cases j with
    | zero =>
      go_wp2
      go_ret
      exact ⟨by rw [hN.out]; rfl, rfl⟩
    | succ j =>
      obtain ⟨v, c0, hp⟩ := HP.out j (by omega)
      have t0 : decide ((0 : Int) < ((j + 1 : Nat) : Int)) = true := decide_eq_true (by omega)
      have s1 : (((j + 1 : Nat) : Int) - 1) = (j : Int) := by omega
      have j0 : (0 : Int) ≤ (j : Int) := by omega
      have j1 : (j : Int) < (c.np : Int) := by omega
      have HX : Hid (nx (c.pg k) (j + 1) = if (c.pg k j).isSome then j + 1 else nx (c.pg k) j) := Lib.hid rfl
      cases hc : c.pg k j with
      | none =>
        rw [hc] at hp HX
        have hp : v = .slice none 0 0 := hp
        subst hp
        have HX' := Lib.hid (hN.out.trans HX.out)
        clear HX hc
        go_wp2
        go_round
        case rel => exact ⟨j, by omega, rfl, HX'⟩
        case measure => simp [intOf]
      | some l =>
        rw [hc] at hp HX
        obtain ⟨b, off, cc, rfl, -, -, -⟩ := hp
        have HX' := Lib.hid (hN.out.trans HX.out)
        clear HX hc
        go_wp2
        go_ret
        exact ⟨by rw [HX'.out]; rfl, rfl⟩

/-- how a stroke ends: the answer, and whether the power stays -/
def endE (kind : Int) : Int := if kind = 1 ∨ kind = 2 then 4 else if kind = 3 then 11 else 0
def endC (kind : Int) (c : Ch) : Ch := if kind = 1 ∨ kind = 2 then { c with up := false } else c

set_option maxRecDepth 100000 in
set_option maxHeartbeats 1000000 in
theorem end_any {w : World} {X : Nat → Prop} {o : Own} {c : Ch} (h : ChAt w X o c) (kind : Int) :
    Calls Try.prog 77 #[o.p, .int .i64 kind] w fun e w' => e = .returned (.int .i64 (endE kind)) ∧ ChAt w' X o (endC kind c) ∧ Kp (o.F c.nb) w w' := by
  obtain ⟨-, -, -, -, c4, -⟩ := h.cell
  have f4 := h.froz 4
  have H := Lib.hid h
  clear h
  by_cases h1 : kind = 1
  · subst h1
    go_enter Try.func77, Try.ntmps77
    go_wp2
    go_ret
    exact ⟨rfl, H.out.putUp false, (Kp.refl _ _).setCell (.inl (.inl rfl)) _⟩
  by_cases h2 : kind = 2
  · subst h2
    clear h1
    go_enter Try.func77, Try.ntmps77
    go_wp2
    go_ret
    exact ⟨rfl, H.out.putUp false, (Kp.refl _ _).setCell (.inl (.inl rfl)) _⟩
  have e12 : endC kind c = c := by unfold endC; rw [if_neg (by omega)]
  by_cases h3 : kind = 3
  · subst h3
    clear h1 h2
    go_enter Try.func77, Try.ntmps77
    go_wp2
    go_ret
    exact ⟨rfl, by rw [e12]; exact H.out, Kp.refl _ _⟩
  have e0 : endE kind = 0 := by unfold endE; rw [if_neg (by omega), if_neg h3]
  rw [e12, e0]
  have t1 : (kind == 1) = false := beq_eq_false_iff_ne.2 h1
  have t2 : (kind == 2) = false := beq_eq_false_iff_ne.2 h2
  have t3 : (kind == 3) = false := beq_eq_false_iff_ne.2 h3
  clear h1 h2 h3 e12 e0
  go_enter Try.func77, Try.ntmps77
  go_wp2
  go_ret
  exact ⟨rfl, H.out, Kp.refl _ _⟩

/-- the fault of a stroke: one of no kind, if none belongs to it -/
def fnd (fl : List Fl) (n : Int) : Fl := (fl.find? fun f => f.at' == n).getD ⟨0, 0, []⟩
theorem fnd_at {fl : List Fl} {n : Int} {k : Nat} (hk : k < fl.length) (h : ∀ j (hj : j < fl.length), j < k → fl[j].at' ≠ n) : fl[k].at' = n → fnd fl n = fl[k] := fun he => by
  unfold fnd
  have : fl.find? (fun f => f.at' == n) = some fl[k] := by
    rw [List.find?_eq_some_iff_getElem]
    refine ⟨by rw [beq_iff_eq]; exact he, k, hk, rfl, fun j hj => ?_⟩
    rw [Bool.not_eq_true', beq_eq_false_iff_ne]
    exact h j (by omega) hj
  rw [this]
  rfl
theorem fnd_none {fl : List Fl} {n : Int} (h : ∀ j (hj : j < fl.length), j < fl.length → fl[j].at' ≠ n) : fnd fl n = ⟨0, 0, []⟩ := by
  unfold fnd
  have : fl.find? (fun f => f.at' == n) = none := by
    rw [List.find?_eq_none]
    intro f hf
    obtain ⟨j, hj, rfl⟩ := List.mem_iff_getElem.1 hf
    rw [beq_iff_eq]
    exact h j hj hj
  rw [this]
  rfl
/-- a chip behind a stroke's beginning -/
def stC (c : Ch) : Ch := { c with since := wrap64 (c.since + 1), strokes := wrap64 (c.strokes + 1) }

theorem stroke_fin {W2 wr WF : World} {X : Nat → Prop} {o : Own} {c : Ch} {g g2 : Nat} (h : ChAt W2 (fun b => X b ∨ b = g ∨ b = g2) o c) (hb : Below W2.heap.size W2 wr) (hk : Kp (fun b => b = g ∨ b = g2) wr WF)
    (hX : ∀ b, X b → b < g) (hg : g < g2) (hF : ∀ b, o.F c.nb b → X b) : ChAt WF X o c := by
  have h1 := (h.below hb).kp hk (fun _ hb => .inr hb) (fun b hb e => by have := hX b (hF b hb); omega)
  exact h1.narrow (fun _ hb => .inl hb) hF
theorem stroke_row {W2 wr WF : World} {X : Nat → Prop} {a : Option Addr} {l : List Int} {g g2 : Nat} (h : RwX W2 (fun b => X b ∨ b = g ∨ b = g2) a l) (hb : Below W2.heap.size W2 wr) (hk : Kp (fun b => b = g ∨ b = g2) wr WF) : RwX WF X a l :=
  ((h.kp (F := fun _ => False) (Kp.of_below hb) (fun _ g => g.elim)).kp hk (fun _ hb => .inr hb)).narrow (fun _ hb => .inl hb)

theorem Blk.put3 {w : World} {g : Nat} {t : TypeId} {x y z a b c : Value} (h : Blk w g t #[x, y, z]) : Blk (((w.setCell ⟨g, 0, none⟩ a).setCell ⟨g, 1, none⟩ b).setCell ⟨g, 2, none⟩ c) g t #[a, b, c] := by
  have := ((h.put 0 a).put 1 b).put 2 c
  simpa using this
theorem stroke_done {WF : World} {tm : Array Value} {g : Nat} {x y z : Value} {Q : Ending → World → Prop} (hb : Blk WF g 69 #[x, y, z]) (ht : tm[2]?.getD undef = .pointer (some ⟨g, 0, none⟩)) (hq : Q (.returned (.agg #[x, y, z])) WF) :
    bodyPost Try.prog Try.f75 Q Exit.ret ⟨tm, []⟩ WF := by
  have c0 : WF.cell? ⟨g, 0, none⟩ = some x := hb.cell 0
  have c1 : WF.cell? ⟨g, 1, none⟩ = some y := hb.cell 1
  have c2 : WF.cell? ⟨g, 2, none⟩ = some z := hb.cell 2
  exact bodyPost_ret (v := .agg #[x, y, z]) (by simp [results, Try.results75, go_sem, ht, c0, c1, c2]) rfl hq

/-- what a call of stroke comes to -/
def StP (w : World) (X : Nat → Prop) (o : Own) (c : Ch) (e : Ending) (w' : World) : Prop :=
  (∃ da dc, e = .returned (.agg #[.int .i64 (fnd c.fl c.since).at', .int .i64 (fnd c.fl c.since).kind, .slice da (fnd c.fl c.since).data.length dc]) ∧
      RwX w' X da (fnd c.fl c.since).data ∧ (fnd c.fl c.since).data.length ≤ dc) ∧ ChAt w' X o (stC c) ∧ Kp (o.F c.nb) w w'
theorem stroke_last {w W2 wr WF : World} {X : Nat → Prop} {o : Own} {c : Ch} {g g2 : Nat} {f : Fl} {da : Option Addr} {dc : Nat} {tm : Array Value} (h2 : ChAt W2 (fun b => X b ∨ b = g ∨ b = g2) o (stC c)) (hbel : Below W2.heap.size W2 wr)
    (hX : ∀ b, X b → b < g) (hg : g < g2) (hF : ∀ b, o.F c.nb b → X b) (hf : fnd c.fl c.since = f) (hr : RwX W2 (fun b => X b ∨ b = g ∨ b = g2) da f.data) (hd : f.data.length ≤ dc)
    (ht : tm[2]?.getD undef = .pointer (some ⟨g, 0, none⟩)) (hb : Blk WF g 69 #[.int .i64 f.at', .int .i64 f.kind, .slice da f.data.length dc]) (hk : Kp (fun b => b = g ∨ b = g2) wr WF) (hk2 : Kp (o.F c.nb) w WF) :
    bodyPost Try.prog Try.f75 (StP w X o c) Exit.ret ⟨tm, []⟩ WF := by
  refine stroke_done hb ht ?_
  unfold StP
  rw [hf]
  exact ⟨⟨da, dc, rfl, stroke_row hr hbel hk, hd⟩, stroke_fin h2 hbel hk hX hg hF, hk2⟩

set_option maxRecDepth 100000 in
set_option maxHeartbeats 1000000 in
theorem stroke_any {w : World} {X : Nat → Prop} {o : Own} {c : Ch} (h : ChAt w X o c) :
    Calls Try.prog 75 #[o.p] w (StP w X o c) := by
  have hXl : Hid (∀ b, X b → b < w.heap.size) := Lib.hid h.old
  have hFX : Hid (∀ b, o.F c.nb b → X b) := Lib.hid h.inX
  have hbl : o.bc < w.heap.size := block_lt_of_cell (h.cell).1
  have H := Lib.hid h
  clear h
  go_enter Try.func75, Try.ntmps75
  go_wp2_with fail
  have K1 : Hid (Kp (o.F c.nb) w (w.alloc (.cells #[.int .i64 0, .int .i64 0, .slice none 0 0] 69))) := Lib.hid ((Kp.refl _ _).alloc _)
  have H1 : Hid (ChAt (w.alloc (.cells #[.int .i64 0, .int .i64 0, .slice none 0 0] 69)) (fun b => X b ∨ b = w.heap.size) o c) := Lib.hid (H.out.widen ((Below.refl _ _).alloc (Nat.le_refl _) _) (fun b hb => hb.elim .inl fun e => .inr (by omega)) (fun b hb => by
    rw [show (w.alloc (.cells #[.int .i64 0, .int .i64 0, .slice none 0 0] 69)).heap.size = w.heap.size + 1 by simp]
    rcases hb with hb | hb
    · have := hXl.out b hb; omega
    · omega) (fun b hb => .inl hb))
  have B1 := Lib.hid (Blk.new w 69 #[.int .i64 0, .int .i64 0, .slice none 0 0])
  generalize (w.alloc (.cells #[.int .i64 0, .int .i64 0, .slice none 0 0] 69)) = W1 at K1 H1 B1
  generalize hg : w.heap.size = g at B1 H1 hXl hbl
  have HG := Lib.hid hg
  clear hg
  have hbg : o.bc ≠ g := by omega
  have gbg : g ≠ o.bc := by omega
  obtain ⟨-, -, -, -, -, c6, c7, -⟩ := H1.out.cell
  have f6 := H1.out.froz 6
  have f7 := H1.out.froz 7
  go_step3
  go_wp2_with fail
  have gW1 : g < W1.heap.size := B1.out.lt
  have H2 : Hid (ChAt (((W1.setCell ⟨o.bc, 6, none⟩ (.int .i64 (wrap64 (c.since + 1)))).setCell ⟨o.bc, 7, none⟩ (.int .i64 (wrap64 (c.strokes + 1)))).alloc (.cells #[.int .i64 0, .int .i64 0, .slice none 0 0] 69)) (fun b => X b ∨ b = g ∨ b = W1.heap.size) o (stC c)) := Lib.hid (by
    have h := (H1.out.putSince (wrap64 (c.since + 1))).putStrokes (wrap64 (c.strokes + 1))
    have hz : ((W1.setCell ⟨o.bc, 6, none⟩ (.int .i64 (wrap64 (c.since + 1)))).setCell ⟨o.bc, 7, none⟩ (.int .i64 (wrap64 (c.strokes + 1)))).heap.size = W1.heap.size := by simp [World.setCell]
    refine ChAt.widen h ((Below.refl _ _).alloc (Nat.le_refl _) _) (fun b hb => ?_) (fun b hb => ?_) (fun b hb => ?_)
    · rcases hb with hb | hb | hb
      · exact .inl (.inl hb)
      · exact .inl (.inr hb)
      · exact .inr (by omega)
    · have : ∀ ob, (((W1.setCell ⟨o.bc, 6, none⟩ (.int .i64 (wrap64 (c.since + 1)))).setCell ⟨o.bc, 7, none⟩ (.int .i64 (wrap64 (c.strokes + 1)))).alloc ob).heap.size = W1.heap.size + 1 := fun ob => by simp [World.setCell]
      rw [this]
      rcases hb with hb | hb | hb
      · have := hXl.out b hb; omega
      · omega
      · omega
    · rcases hb with hb | hb
      · exact .inl hb
      · exact .inr (.inl hb))
  have K2 := Lib.hid (((K1.out.setCell (p := ⟨o.bc, 6, none⟩) (.inl (.inl rfl)) (.int .i64 (wrap64 (c.since + 1)))).setCell (p := ⟨o.bc, 7, none⟩) (.inl (.inl rfl)) (.int .i64 (wrap64 (c.strokes + 1)))).alloc (.cells #[.int .i64 0, .int .i64 0, .slice none 0 0] 69))
  have B2 := Lib.hid (((B1.out.far (p := ⟨o.bc, 6, none⟩) (fun e => hbg e.symm) (.int .i64 (wrap64 (c.since + 1)))).far (p := ⟨o.bc, 7, none⟩) (fun e => hbg e.symm) (.int .i64 (wrap64 (c.strokes + 1)))).alloc (.cells #[.int .i64 0, .int .i64 0, .slice none 0 0] 69))
  have C2 := Lib.hid (Blk.new ((W1.setCell ⟨o.bc, 6, none⟩ (.int .i64 (wrap64 (c.since + 1)))).setCell ⟨o.bc, 7, none⟩ (.int .i64 (wrap64 (c.strokes + 1)))) 69 #[.int .i64 0, .int .i64 0, .slice none 0 0])
  have hsz : ((W1.setCell ⟨o.bc, 6, none⟩ (.int .i64 (wrap64 (c.since + 1)))).setCell ⟨o.bc, 7, none⟩ (.int .i64 (wrap64 (c.strokes + 1)))).heap.size = W1.heap.size := by simp [World.setCell]
  rw [hsz] at C2
  generalize (((W1.setCell ⟨o.bc, 6, none⟩ (.int .i64 (wrap64 (c.since + 1)))).setCell ⟨o.bc, 7, none⟩ (.int .i64 (wrap64 (c.strokes + 1)))).alloc (.cells #[.int .i64 0, .int .i64 0, .slice none 0 0] 69)) = W2 at H2 K2 B2 C2
  generalize hg2 : W1.heap.size = g2 at C2 gW1 H2
  clear hg2 hsz c6 c7 f6 f7 H1 B1 K1
  have g12 : g ≠ g2 := by omega
  have g21 : g2 ≠ g := by omega
  obtain ⟨fv, hbk, a, cap, rfl, hm, hrow⟩ : ∃ fv, Blk W2 o.bc 88 (chV o (stC c) fv) ∧ FlAt W2 (fun b => X b ∨ b = g ∨ b = g2) fv c.fl := H2.out.chip
  have c5 : W2.cell? ⟨o.bc, 5, none⟩ = some (.slice a c.fl.length cap) := hbk.cell 5
  have hlen : c.fl.length ≤ 9223372036854775807 := by have : c.fl.length ≤ maxLen := hm; unfold maxLen at this; omega
  have HRow := Lib.hid hrow
  clear hbk hm hrow
  go_step3
  go_wp2_with fail
  go_loopw [6, 30] (fun _ i wr => ∃ k : Nat, k ≤ c.fl.length ∧ i = .int .i64 k ∧ Hid (Below W2.heap.size W2 wr) ∧ Hid (∀ j (hj : j < c.fl.length), j < k → c.fl[j].at' ≠ c.since)) (fun _ i _ => c.fl.length - (intOf i).toNat)
  case atStart => exact ⟨0, by omega, rfl, Lib.hid (Below.refl _ _), Lib.hid fun j _ hj => absurd hj (Nat.not_lt_zero _)⟩
  case round =>
    obtain ⟨k, hk, rfl, hbel, hN⟩ := hrel
    have HBr := Lib.hid (B2.out.below hbel.out B2.out.lt)
    have HCr := Lib.hid (C2.out.below hbel.out C2.out.lt)
    by_cases hlt : k < c.fl.length
    · rcases HRow.out with h0 | ⟨b, off, rfl, hx, hcs⟩
      · rw [h0] at hlt; simp at hlt
      obtain ⟨q0, q1, da, dc, q2, hr, hd⟩ := hcs k hlt
      have r0 := (hbel.out.cell (block_lt_of_cell q0)).trans q0
      have r1 := (hbel.out.cell (block_lt_of_cell q1)).trans q1
      have r2 := (hbel.out.cell (block_lt_of_cell q2)).trans q2
      have kl : (k : Int) < (c.fl.length : Int) := by omega
      have HFd : Hid (c.fl[k].at' = c.since → fnd c.fl c.since = c.fl[k]) := Lib.hid (fnd_at hlt hN.out)
      have HNx : Hid (c.fl[k].at' ≠ c.since → ∀ j (hj : j < c.fl.length), j < k + 1 → c.fl[j].at' ≠ c.since) := Lib.hid fun hne j hj g => by
        by_cases e : j = k
        · subst e; exact hne
        · exact hN.out j hj (by omega)
      have HDr := Lib.hid hr
      have HDl := Lib.hid hd
      clear hcs q0 q1 q2 hx hr hd
      generalize c.fl[k] = f at r0 r1 r2 HFd HNx HDr HDl
      by_cases he : f.at' = c.since
      · have t0 : (f.at' == c.since) = true := beq_iff_eq.2 he
        have x0 := fun ob => cell_alloc (HCr.out.cell 0) ob
        have x1 := fun ob => cell_alloc (HCr.out.cell 1) ob
        have x2 := fun ob => cell_alloc (HCr.out.cell 2) ob
        have z0 := fun ob i => (HCr.out.alloc ob).frozen i
        have y0 := fun ob => cell_alloc (HBr.out.cell 0) ob
        have y1 := fun ob => cell_alloc (HBr.out.cell 1) ob
        have y2 := fun ob => cell_alloc (HBr.out.cell 2) ob
        have u0 := fun ob i => (HBr.out.alloc ob).frozen i
        have HF' := Lib.hid (HFd.out he)
        clear he HFd HNx
        go_wp2
        rw [Exit.noGoto_ret]
        refine stroke_last H2.out hbel.out hXl.out gW1 hFX.out HF'.out HDr.out HDl.out rfl ?_ ?_ ?_
        · exact Blk.put3 (Blk.far (Blk.far (Blk.far (Blk.alloc HBr.out _) g12 _) g12 _) g12 _)
        · exact Kp.setCell (Kp.setCell (Kp.setCell (Kp.setCell (Kp.setCell (Kp.setCell (Kp.alloc (Kp.refl _ _) _) (.inl (.inr rfl)) _) (.inl (.inr rfl)) _) (.inl (.inr rfl)) _) (.inl (.inl rfl)) _) (.inl (.inl rfl)) _) (.inl (.inl rfl)) _
        · have hq1 : w.heap.size ≤ g := by have := HG.out; omega
          have hq2 : w.heap.size ≤ g2 := by have := HG.out; omega
          exact Kp.setCell (Kp.setCell (Kp.setCell (Kp.setCell (Kp.setCell (Kp.setCell (Kp.alloc (K2.out.trans (Kp.of_below hbel.out)) _) (.inr hq2) _) (.inr hq2) _) (.inr hq2) _) (.inr hq1) _) (.inr hq1) _) (.inr hq1) _
      · have t0 : (f.at' == c.since) = false := beq_eq_false_iff_ne.2 he
        have HN' := Lib.hid (HNx.out he)
        clear he HFd HNx HDr HDl
        go_wp2
        go_roundw
        case rel => exact ⟨k + 1, by omega, by go_num, Lib.hid (hbel.out.alloc hbel.out.size _), HN'⟩
        case measure => simp [intOf]; omega
    · have hkn : k = c.fl.length := by omega
      subst hkn
      have HFd := Lib.hid (fnd_none hN.out)
      have x0 := HCr.out.cell 0
      have x1 := HCr.out.cell 1
      have x2 := HCr.out.cell 2
      have z0 := fun i => HCr.out.frozen i
      have y0 := HBr.out.cell 0
      have y1 := HBr.out.cell 1
      have y2 := HBr.out.cell 2
      have u0 := fun i => HBr.out.frozen i
      go_wp2
      rw [Exit.noGoto_ret]
      refine stroke_last (f := ⟨0, 0, []⟩) H2.out hbel.out hXl.out gW1 hFX.out HFd.out (RwX.nil (a := none)) (Nat.le_refl 0) rfl ?_ ?_ ?_
      · exact Blk.put3 HBr.out
      · exact Kp.setCell (Kp.setCell (Kp.setCell (Kp.refl _ _) (.inl (.inl rfl)) _) (.inl (.inl rfl)) _) (.inl (.inl rfl)) _
      · have hq1 : w.heap.size ≤ g := by have := HG.out; omega
        exact Kp.setCell (Kp.setCell (Kp.setCell (K2.out.trans (Kp.of_below hbel.out)) (.inr hq1) _) (.inr hq1) _) (.inr hq1) _
end Go.Proofs.Ytnnpdlebgfjihaa
