/-
  The document's manager in memory: what stays a manager, and its small calls. Nothing of one statement alone stands here.
-/
import Derived.Test.YtjjggmopkfkpaaaGreatKS
import Derived.Test.YtjjggmopkfkpaaaGreatKI
import Derived.Test.YtjjggmopkfkpaaaGreatKA
import Derived.Test.YtjjggmopkfkpaaaGreatKU
import Derived.Deep.CutBlock
import Derived.Deep.CutRange
import Derived.Deep.DeepCutAuto
namespace Go.Proofs.YtjjggmopkfkpaaaGreat
open Go.RowKit Crcm Go.ChangeShapes

/-- the numbers of the blocks of memory that are the document's manager's own: itself, its states, its live pages, its next pages; the rows' room -/
structure Rq where
  d : Nat
  s : Nat
  l : Nat
  n : Nat
  cs : Nat
  cl : Nat
  cn : Nat
def Rq.F (q : Rq) (m : Nat) : Prop := m = q.d ∨ m = q.s ∨ m = q.l ∨ m = q.n
/-- a row of ints, so many at least -/
def RwN (w : World) (g nb : Nat) : Prop := ∃ cs, Blk w g 3 cs ∧ ∀ i, i < nb → ∃ z, cs[i]? = some (.int .i64 z)
theorem RwN.kp {F : Nat → Prop} {w w' : World} {g nb : Nat} (h : RwN w g nb) (hk : Kp F w w') (hg : ¬ F g) : RwN w' g nb := h.imp fun _ h => ⟨h.1.kp hk hg, h.2⟩
theorem RwN.far {w : World} {g nb : Nat} (h : RwN w g nb) {p : Addr} (hp : g ≠ p.block) (u : Value) : RwN (w.setCell p u) g nb := h.imp fun _ h => ⟨h.1.far hp u, h.2⟩
theorem RwN.put {w : World} {g nb : Nat} (h : RwN w g nb) (i : Nat) (z : Int) : RwN (w.setCell ⟨g, i, none⟩ (.int .i64 z)) g nb := by
  obtain ⟨cs, h1, h2⟩ := h
  refine ⟨_, h1.put i (.int .i64 z), fun j hj => ?_⟩
  obtain ⟨y, hy⟩ := h2 j hj
  by_cases e : i = j
  · subst e
    have hlt : i < cs.size := (Array.getElem?_eq_some_iff.1 hy).1
    exact ⟨z, by simp [hlt]⟩
  · exact ⟨y, by rw [Array.getElem?_setIfInBounds, if_neg e]; exact hy⟩
theorem RwN.cell {w : World} {g nb : Nat} (h : RwN w g nb) {i : Nat} (hi : i < nb) : ∃ z, w.cell? ⟨g, i, none⟩ = some (.int .i64 z) := by
  obtain ⟨cs, h1, h2⟩ := h
  exact (h2 i hi).imp fun z hz => (h1.cell i).trans hz
theorem RwN.froz {w : World} {g nb : Nat} (h : RwN w g nb) (i : Nat) : w.frozen? ⟨g, i, none⟩ = false := by
  obtain ⟨cs, h1, -⟩ := h
  exact h1.frozen i

/-- what stands at the manager's own block -/
def rmV (o : Rb) (q : Rq) (nb : Nat) (r b : Int) (ev : Bool) : Array Value :=
  #[.pointer (some ⟨o.g, 0, none⟩), .slice (some ⟨q.s, 0, none⟩) nb q.cs, .slice (some ⟨q.l, 0, none⟩) nb q.cl, .slice (some ⟨q.n, 0, none⟩) nb q.cn, .int .i64 r, .int .i64 b, .bool ev]
/-- the document's manager in memory, with its chip -/
structure RmAt (w : World) (X : Nat → Prop) (o : Rb) (q : Rq) (nb np sz : Nat) (dn : Bool) : Prop where
  chip : RcAt w X o nb np sz dn
  blk : ∃ r b ev, Blk w q.d 82 (rmV o q nb r b ev)
  st : RwN w q.s nb
  lv : RwN w q.l nb
  nx : RwN w q.n nb
  inX : ∀ b, q.F b → X b
  far : ∀ b, q.F b → ¬ o.F b
  ne : q.d ≠ q.s ∧ q.d ≠ q.l ∧ q.d ≠ q.n ∧ q.s ≠ q.l ∧ q.s ≠ q.n ∧ q.l ≠ q.n
/-- the blocks of memory that its calls turn -/
def RmF (o : Rb) (q : Rq) (b : Nat) : Prop := o.F b ∨ q.F b
theorem RmAt.kp {F X : Nat → Prop} {w w' : World} {o : Rb} {q : Rq} {nb np sz : Nat} {dn : Bool} (h : RmAt w X o q nb np sz dn) (hk : Kp F w w') (hf : ∀ b, F b → X b) (hd : ∀ b, RmF o q b → ¬ F b) : RmAt w' X o q nb np sz dn :=
  ⟨h.chip.kp hk hf (fun b hb => hd b (.inl hb)), h.blk.imp fun _ g => g.imp fun _ g => g.imp fun _ g => g.kp hk (hd _ (.inr (.inl rfl))), h.st.kp hk (hd _ (.inr (.inr (.inl rfl)))), h.lv.kp hk (hd _ (.inr (.inr (.inr (.inl rfl))))), h.nx.kp hk (hd _ (.inr (.inr (.inr (.inr rfl))))), h.inX, h.far, h.ne⟩
theorem RmAt.below {X : Nat → Prop} {w w' : World} {o : Rb} {q : Rq} {nb np sz : Nat} {dn : Bool} (h : RmAt w X o q nb np sz dn) (hb : Below w.heap.size w w') : RmAt w' X o q nb np sz dn :=
  h.kp (F := fun _ => False) (Kp.of_below hb) (fun _ g => g.elim) (fun _ _ g => g)
/-- behind a call of its chip's -/
theorem RmAt.chipped {X : Nat → Prop} {w w' : World} {o : Rb} {q : Rq} {nb np sz : Nat} {dn dn' : Bool} (h : RmAt w X o q nb np sz dn) (hk : Kp o.F w w') (hc : RcAt w' X o nb np sz dn') : RmAt w' X o q nb np sz dn' :=
  ⟨hc, h.blk.imp fun _ g => g.imp fun _ g => g.imp fun _ g => g.kp hk (h.far _ (.inl rfl)), h.st.kp hk (h.far _ (.inr (.inl rfl))), h.lv.kp hk (h.far _ (.inr (.inr (.inl rfl)))), h.nx.kp hk (h.far _ (.inr (.inr (.inr rfl)))), h.inX, h.far, h.ne⟩
theorem RmAt.puts {w : World} {X : Nat → Prop} {o : Rb} {q : Rq} {nb np sz : Nat} {dn : Bool} (h : RmAt w X o q nb np sz dn) (i : Nat) (z : Int) : RmAt (w.setCell ⟨q.s, i, none⟩ (.int .i64 z)) X o q nb np sz dn := by
  obtain ⟨n1, n2, n3, n4, n5, n6⟩ := h.ne
  have hK := Kp.one w ⟨q.s, i, none⟩ (.int .i64 z)
  refine ⟨h.chip.kp hK (fun b hb => by rw [hb]; exact h.inX _ (.inr (.inl rfl))) (fun b hb e => h.far q.s (.inr (.inl rfl)) (by have e2 : b = q.s := e; rw [← e2]; exact hb)), h.blk.imp fun _ g => g.imp fun _ g => g.imp fun _ g => g.far n1 _, h.st.put i z, h.lv.far (fun e => n4 e.symm) _, h.nx.far (fun e => n5 e.symm) _, h.inX, h.far, h.ne⟩
theorem RmAt.putl {w : World} {X : Nat → Prop} {o : Rb} {q : Rq} {nb np sz : Nat} {dn : Bool} (h : RmAt w X o q nb np sz dn) (i : Nat) (z : Int) : RmAt (w.setCell ⟨q.l, i, none⟩ (.int .i64 z)) X o q nb np sz dn := by
  obtain ⟨n1, n2, n3, n4, n5, n6⟩ := h.ne
  have hK := Kp.one w ⟨q.l, i, none⟩ (.int .i64 z)
  refine ⟨h.chip.kp hK (fun b hb => by rw [hb]; exact h.inX _ (.inr (.inr (.inl rfl)))) (fun b hb e => h.far q.l (.inr (.inr (.inl rfl))) (by have e2 : b = q.l := e; rw [← e2]; exact hb)), h.blk.imp fun _ g => g.imp fun _ g => g.imp fun _ g => g.far n2 _, h.st.far n4 _, h.lv.put i z, h.nx.far (fun e => n6 e.symm) _, h.inX, h.far, h.ne⟩
theorem RmAt.putn {w : World} {X : Nat → Prop} {o : Rb} {q : Rq} {nb np sz : Nat} {dn : Bool} (h : RmAt w X o q nb np sz dn) (i : Nat) (z : Int) : RmAt (w.setCell ⟨q.n, i, none⟩ (.int .i64 z)) X o q nb np sz dn := by
  obtain ⟨n1, n2, n3, n4, n5, n6⟩ := h.ne
  have hK := Kp.one w ⟨q.n, i, none⟩ (.int .i64 z)
  refine ⟨h.chip.kp hK (fun b hb => by rw [hb]; exact h.inX _ (.inr (.inr (.inr rfl)))) (fun b hb e => h.far q.n (.inr (.inr (.inr rfl))) (by have e2 : b = q.n := e; rw [← e2]; exact hb)), h.blk.imp fun _ g => g.imp fun _ g => g.imp fun _ g => g.far n3 _, h.st.far n5 _, h.lv.far n6 _, h.nx.put i z, h.inX, h.far, h.ne⟩
theorem RmAt.cells {w : World} {X : Nat → Prop} {o : Rb} {q : Rq} {nb np sz : Nat} {dn : Bool} (h : RmAt w X o q nb np sz dn) :
    w.cell? ⟨q.d, 0, none⟩ = some (.pointer (some ⟨o.g, 0, none⟩)) ∧ w.cell? ⟨q.d, 1, none⟩ = some (.slice (some ⟨q.s, 0, none⟩) nb q.cs) ∧ w.cell? ⟨q.d, 2, none⟩ = some (.slice (some ⟨q.l, 0, none⟩) nb q.cl) ∧ w.cell? ⟨q.d, 3, none⟩ = some (.slice (some ⟨q.n, 0, none⟩) nb q.cn) := by
  obtain ⟨_, _, _, h1⟩ := h.blk
  exact ⟨h1.cell 0, h1.cell 1, h1.cell 2, h1.cell 3⟩
/-- what a call that turns the manager leaves -/
def RmQ (w : World) (X : Nat → Prop) (o : Rb) (q : Rq) (nb np sz : Nat) (dn : Bool) (w' : World) : Prop := RmAt w' X o q nb np sz dn ∧ Kp (RmF o q) w w'
theorem kpq {w w' : World} {o : Rb} {q : Rq} {g i : Nat} {u : Value} (hk : Kp (RmF o q) w w') (hg : q.F g) : Kp (RmF o q) w (w'.setCell ⟨g, i, none⟩ u) := hk.setCell (p := ⟨g, i, none⟩) (.inl (.inr hg)) u

set_option maxRecDepth 100000 in
set_option maxHeartbeats 1000000 in
theorem ropened_any {w : World} {X : Nat → Prop} {o : Rb} {q : Rq} {nb np sz : Nat} {dn : Bool} (h : RmAt w X o q nb np sz dn) :
    Calls Tryz.prog 34 #[.pointer (some ⟨q.d, 0, none⟩)] w fun e w' => (∃ x : Int, e = .returned (.int .i64 x) ∧ (x < 0 ∨ x < nb) ∧ -1 ≤ x) ∧ w = w' := by
  obtain ⟨c0, c1, -, -⟩ := h.cells
  have hnb : nb < 129 := h.chip.good.2.1
  have HS := Lib.hid h.st
  clear h
  go_enter Tryz.func34, Tryz.ntmps34
  go_wp2_with fail
  go_loopw [3] (fun i wr => ∃ k : Nat, k ≤ nb ∧ i = .int .i64 k ∧ w = wr) (fun i _ => nb - (intOf i).toNat)
  case atStart => exact ⟨0, by omega, rfl, rfl⟩
  case round =>
    obtain ⟨k, hk, rfl, rfl⟩ := hrel
    by_cases hlt : k < nb
    · have kl : (k : Int) < (nb : Int) := by omega
      obtain ⟨z, hz⟩ := HS.out.cell hlt
      by_cases e : z = 1
      · subst e
        go_wp2
        go_ret
        exact ⟨⟨k, rfl, by omega, by omega⟩, rfl⟩
      · have t : (z == 1) = false := by simpa using e
        clear e
        go_wp2
        go_roundw
        case rel => exact ⟨k + 1, by omega, by go_num, trivial⟩
        case measure => simp [intOf]; omega
    · have kl : ¬ (k : Int) < (nb : Int) := by omega
      go_wp2
      go_ret
      exact ⟨⟨-1, rfl, by omega, by omega⟩, rfl⟩

set_option maxRecDepth 100000 in
set_option maxHeartbeats 1000000 in
theorem rclose_any {w : World} {X : Nat → Prop} {o : Rb} {q : Rq} {nb np sz : Nat} {dn : Bool} (h : RmAt w X o q nb np sz dn) (k : Nat) (hk : k < nb) :
    Calls Tryz.prog 37 #[.pointer (some ⟨q.d, 0, none⟩), .int .i64 k] w fun e w' => e = .returned (.tuple #[]) ∧ RmQ w X o q nb np sz dn w' := by
  obtain ⟨c0, c1, c2, -⟩ := h.cells
  have hnb : nb < 129 := h.chip.good.2.1
  obtain ⟨n1, n2, n3, n4, n5, n6⟩ := h.ne
  obtain ⟨z, hz⟩ := h.st.cell hk
  obtain ⟨y, hy⟩ := h.lv.cell hk
  have f1 := h.st.froz k
  have P1 := h.puts k 3
  have P2 := P1.puts k 2
  obtain ⟨d0, d1, d2, -⟩ := P1.cells
  have e1 := (h.lv.far (p := ⟨q.s, k, none⟩) (fun e => n4 e.symm) (.int .i64 3)).froz k
  obtain ⟨x1, hx1⟩ := P1.st.cell hk
  have g1 := P1.st.froz k
  have hy1 : (w.setCell ⟨q.s, k, none⟩ (.int .i64 3)).cell? ⟨q.l, k, none⟩ = some (.int .i64 y) := by
    have hkp := Kp.one w ⟨q.s, k, none⟩ (.int .i64 3)
    rw [hkp.cell (p := ⟨q.l, k, none⟩) (block_lt_of_cell hy) (fun e => n4 (by have e2 : q.l = q.s := e; exact e2.symm))]
    exact hy
  have K1 : Kp (RmF o q) w (w.setCell ⟨q.s, k, none⟩ (.int .i64 3)) := kpq (Kp.refl _ w) (.inr (.inl rfl))
  have HP1 := Lib.hid (And.intro P1 K1)
  have HP2 := Lib.hid (And.intro P2 (kpq (i := k) (u := .int .i64 2) K1 (.inr (.inl rfl))))
  have kl : (k : Int) < (nb : Int) := by omega
  clear h P1 P2 K1 e1
  by_cases t : 0 < y
  · have t1 : decide (0 < y) = true := decide_eq_true t
    clear t
    go_enter Tryz.func37, Tryz.ntmps37
    go_wp2
    go_end0
    exact ⟨rfl, HP2.out.1, HP2.out.2⟩
  · have t1 : decide (0 < y) = false := decide_eq_false t
    clear t
    go_enter Tryz.func37, Tryz.ntmps37
    go_wp2
    go_end0
    exact ⟨rfl, HP1.out.1, HP1.out.2⟩

/-- a truth: if it is so, there is a block of that number -/
def ThQ (nb : Nat) (k : Int) (e : Ending) : Prop := ∃ x : Bool, e = .returned (.bool x) ∧ (x = true → 0 ≤ k ∧ k < nb)
set_option maxRecDepth 100000 in
set_option maxHeartbeats 1000000 in
theorem rthere_any {w : World} {X : Nat → Prop} {o : Rb} {q : Rq} {nb np sz : Nat} {dn : Bool} (h : RmAt w X o q nb np sz dn) (k : Int) :
    Calls Tryz.prog 39 #[.pointer (some ⟨q.d, 0, none⟩), .int .i64 k] w fun e w' => ThQ nb k e ∧ w = w' := by
  obtain ⟨c0, c1, -, -⟩ := h.cells
  have hnb : nb < 129 := h.chip.good.2.1
  by_cases h0 : 0 ≤ k
  case neg =>
    have t0 : decide (0 ≤ k) = false := decide_eq_false h0
    clear h
    go_enter Tryz.func39, Tryz.ntmps39
    go_wp2
    go_ret
    exact ⟨⟨false, rfl, fun e => (by cases e)⟩, rfl⟩
  obtain ⟨n, rfl⟩ : ∃ n : Nat, k = n := ⟨k.toNat, by omega⟩
  by_cases h1 : n < nb
  case neg =>
    have t0 : decide ((0 : Int) ≤ (n : Int)) = true := decide_eq_true h0
    have t1 : ¬ ((n : Int) < (nb : Int)) := by omega
    clear h
    go_enter Tryz.func39, Tryz.ntmps39
    go_wp2
    go_ret
    exact ⟨⟨false, rfl, fun e => (by cases e)⟩, rfl⟩
  have t1 : (n : Int) < (nb : Int) := by omega
  obtain ⟨z, hz⟩ := h.st.cell h1
  clear h
  go_enter Tryz.func39, Tryz.ntmps39
  go_wp2
  go_ret
  exact ⟨⟨_, rfl, fun _ => ⟨by omega, by omega⟩⟩, rfl⟩

set_option maxRecDepth 100000 in
set_option maxHeartbeats 1000000 in
theorem rgone_any {w : World} {X : Nat → Prop} {o : Rb} {q : Rq} {nb np sz : Nat} {dn : Bool} (h : RmAt w X o q nb np sz dn) (k : Nat) (hk : k < nb) :
    Calls Tryz.prog 76 #[.pointer (some ⟨q.d, 0, none⟩), .int .i64 k] w fun e w' => e = .returned (.tuple #[]) ∧ RmQ w X o q nb np sz dn w' := by
  have hnb : nb < 129 := h.chip.good.2.1
  have kl : (k : Int) < (nb : Int) := by omega
  obtain ⟨c0, c1, c2, c3⟩ := h.cells
  obtain ⟨-, -, -, r6, -⟩ := h.chip.rows
  obtain ⟨-, -, ⟨z0, hz0⟩, -⟩ := h.chip.row hk
  have fz := (h.chip.froz k).2.2.2.2.1
  have K0 : Kp o.F w (w.setCell ⟨o.b, k, none⟩ (.bool true)) := kp_set (i := k) (u := .bool true) (Kp.refl o.F w) (q := o.b) (by simp [Rb.F])
  have A0 := h.chipped K0 (h.chip.putb k true)
  have L0 : Kp (RmF o q) w (w.setCell ⟨o.b, k, none⟩ (.bool true)) := K0.mono (fun b hb => .inl hb)
  have HA0 := Lib.hid A0
  have HL0 := Lib.hid L0
  clear K0 L0 A0 h
  go_enter Tryz.func76, Tryz.ntmps76
  go_upto_region 1 with (fail)
  generalize (w.setCell ⟨o.b, k, none⟩ (.bool true)) = w1 at HA0 HL0 ⊢
  clear c0 c1 c2 c3 r6 hz0 fz
  obtain ⟨c0, c1, c2, c3⟩ := HA0.out.cells
  obtain ⟨x1, hx1⟩ := HA0.out.st.cell hk
  have f1 := HA0.out.st.froz k
  have HA1 := Lib.hid (HA0.out.puts k 4)
  have HL1 := Lib.hid (kpq (i := k) (u := .int .i64 4) HL0.out (.inr (.inl rfl)))
  clear HA0 HL0
  go_upto_region 2 with (fail)
  generalize (w1.setCell ⟨q.s, k, none⟩ (.int .i64 4)) = w2 at HA1 HL1 ⊢
  clear c0 c1 c2 c3 hx1 f1
  obtain ⟨c0, c1, c2, c3⟩ := HA1.out.cells
  obtain ⟨x2, hx2⟩ := HA1.out.lv.cell hk
  have f2 := HA1.out.lv.froz k
  have HA2 := Lib.hid (HA1.out.putl k 0)
  have HL2 := Lib.hid (kpq (i := k) (u := .int .i64 0) HL1.out (.inr (.inr (.inl rfl))))
  clear HA1 HL1
  go_upto_region 3 with (fail)
  generalize (w2.setCell ⟨q.l, k, none⟩ (.int .i64 0)) = w3 at HA2 HL2 ⊢
  clear c0 c1 c2 c3 hx2 f2
  obtain ⟨c0, c1, c2, c3⟩ := HA2.out.cells
  obtain ⟨x3, hx3⟩ := HA2.out.nx.cell hk
  have f3 := HA2.out.nx.froz k
  have HA3 := Lib.hid (HA2.out.putn k 0)
  have HL3 := Lib.hid (kpq (i := k) (u := .int .i64 0) HL2.out (.inr (.inr (.inr rfl))))
  clear HA2 HL2
  go_wp2
  go_end0
  exact ⟨rfl, HA3.out, HL3.out⟩
end Go.Proofs.YtjjggmopkfkpaaaGreat

/-
  The document's manager: a block begun, a page dropped. Nothing of one statement alone stands here.
-/
namespace Go.Proofs.YtjjggmopkfkpaaaGreat
open Go.RowKit Crcm Go.ChangeShapes

set_option maxRecDepth 100000 in
set_option maxHeartbeats 2000000 in
theorem rbegin_any {w : World} {X : Nat → Prop} {o : Rb} {q : Rq} {nb np sz : Nat} {dn : Bool} (h : RmAt w X o q nb np sz dn) :
    Calls Tryz.prog 35 #[.pointer (some ⟨q.d, 0, none⟩)] w fun e w' => (∃ x : Int, e = .returned (.int .i64 x) ∧ (x < 0 ∨ x < nb) ∧ -1 ≤ x) ∧ RmQ w X o q nb np sz dn w' := by
  obtain ⟨c0, c1, -, -⟩ := h.cells
  have hnb : nb < 129 := h.chip.good.2.1
  have HH := Lib.hid h
  obtain ⟨-, -, -, -, r7⟩ := h.chip.rows
  clear h
  go_enter Tryz.func35, Tryz.ntmps35
  go_wp2_with fail
  go_loopw [3, 4] (fun s i wr => ∃ (k : Nat) (a : Int), k ≤ nb ∧ i = .int .i64 k ∧ s = .int .i64 a ∧ (-1 ≤ a ∧ a < nb) ∧ Hid (Below w.heap.size w wr)) (fun _ i _ => nb - (intOf i).toNat)
  case atStart => exact ⟨0, -1, by omega, rfl, rfl, by omega, Lib.hid (Below.refl _ _)⟩
  case round =>
    obtain ⟨k, a, hk, rfl, rfl, ha, E⟩ := hrel
    have HR := Lib.hid (HH.out.below E.out)
    clear c0 c1 r7
    obtain ⟨c0, c1, -, -⟩ := HR.out.cells
    obtain ⟨-, -, -, -, r7⟩ := HR.out.chip.rows
    have l0 := fun m' : Later wr => m'.cell c0
    have l1 := fun m' : Later wr => m'.cell c1
    have l7 := fun m' : Later wr => m'.cell r7
    by_cases hlt : k < nb
    · have kl : (k : Int) < (nb : Int) := by omega
      obtain ⟨z, hz⟩ := HR.out.st.cell hlt
      obtain ⟨-, -, -, ⟨y, hy⟩⟩ := HR.out.chip.row hlt
      have lz := fun m' : Later wr => m'.cell hz
      have ly := fun m' : Later wr => m'.cell hy
      by_cases e : z = 0
      · subst e
        by_cases e2 : a < 0
        · have t : decide (a < 0) = true := decide_eq_true e2
          go_wp2_with fail
          refine wp_region_later (by kernel_rfl) (by kernel_rfl) ?_
          repeat (go_big_quiet_step (fail))
          refine wpQuiet_nil ?_
          rintro _ ⟨m', rfl⟩
          go_wp2
          go_roundw
          case rel => exact ⟨k + 1, k, by omega, by go_num, rfl, by omega, Lib.hid (E.out.trans (m'.bel.mono E.out.size))⟩
          case measure => simp [intOf]; omega
        · obtain ⟨p, rfl⟩ : ∃ p : Nat, a = p := ⟨a.toNat, by omega⟩
          have t : decide ((p : Int) < 0) = false := decide_eq_false e2
          have hpl : p < nb := by omega
          have pl : (p : Int) < (nb : Int) := by omega
          obtain ⟨-, -, -, ⟨u, hu⟩⟩ := HR.out.chip.row hpl
          have lu := fun m' : Later wr => m'.cell hu
          by_cases e3 : y < u
          · have t2 : decide (y < u) = true := decide_eq_true e3
            go_wp2_with fail
            refine wp_region_later (by kernel_rfl) (by kernel_rfl) ?_
            repeat (go_big_quiet_step (fail))
            refine wpQuiet_nil ?_
            rintro _ ⟨m', rfl⟩
            go_wp2
            go_roundw
            case rel => exact ⟨k + 1, k, by omega, by go_num, rfl, by omega, Lib.hid (E.out.trans (m'.bel.mono E.out.size))⟩
            case measure => simp [intOf]; omega
          · have t2 : decide (y < u) = false := decide_eq_false e3
            go_wp2_with fail
            refine wp_region_later (by kernel_rfl) (by kernel_rfl) ?_
            repeat (go_big_quiet_step (fail))
            refine wpQuiet_nil ?_
            rintro _ ⟨m', rfl⟩
            go_wp2
            go_roundw
            case rel => exact ⟨k + 1, p, by omega, by go_num, rfl, by omega, Lib.hid (E.out.trans (m'.bel.mono E.out.size))⟩
            case measure => simp [intOf]; omega
      · have t : (z == 0) = false := by simpa using e
        clear e
        go_wp2_with fail
        refine wp_region_later (by kernel_rfl) (by kernel_rfl) ?_
        repeat (go_big_quiet_step (fail))
        refine wpQuiet_nil ?_
        rintro _ ⟨m', rfl⟩
        go_wp2
        go_roundw
        case rel => exact ⟨k + 1, a, by omega, by go_num, rfl, ha, Lib.hid (E.out.trans (m'.bel.mono E.out.size))⟩
        case measure => simp [intOf]; omega
    · have kl : ¬ (k : Int) < (nb : Int) := by omega
      by_cases e2 : 0 ≤ a
      case neg =>
        have t : decide (0 ≤ a) = false := decide_eq_false e2
        go_wp2
        go_ret
        exact ⟨⟨a, rfl, by omega, by omega⟩, HR.out, Kp.of_below E.out⟩
      obtain ⟨p, rfl⟩ : ∃ p : Nat, a = p := ⟨a.toNat, by omega⟩
      have hpl : p < nb := by omega
      have pl : (p : Int) < (nb : Int) := by omega
      obtain ⟨x1, hx1⟩ := HR.out.st.cell hpl
      have f1 := HR.out.st.froz p
      have HA1 := Lib.hid (HR.out.puts p 1)
      have HL1 := Lib.hid (kpq (i := p) (u := .int .i64 1) (Kp.of_below (F := RmF o q) E.out) (.inr (.inl rfl)))
      clear HH HR r7 ha l0 l1 l7
      go_upto_region 9 with (fail)
      generalize (wr.setCell ⟨q.s, p, none⟩ (.int .i64 1)) = w2 at HA1 HL1 ⊢
      clear c0 c1 hx1 f1
      obtain ⟨c0, c1, c2, c3⟩ := HA1.out.cells
      obtain ⟨x2, hx2⟩ := HA1.out.lv.cell hpl
      have f2 := HA1.out.lv.froz p
      have HA2 := Lib.hid (HA1.out.putl p 0)
      have HL2 := Lib.hid (kpq (i := p) (u := .int .i64 0) HL1.out (.inr (.inr (.inl rfl))))
      clear HA1 HL1
      go_upto_region 10 with (fail)
      generalize (w2.setCell ⟨q.l, p, none⟩ (.int .i64 0)) = w3 at HA2 HL2 ⊢
      clear c0 c1 c2 c3 hx2 f2
      obtain ⟨c0, c1, c2, c3⟩ := HA2.out.cells
      obtain ⟨x3, hx3⟩ := HA2.out.nx.cell hpl
      have f3 := HA2.out.nx.froz p
      have HA3 := Lib.hid (HA2.out.putn p 0)
      have HL3 := Lib.hid (kpq (i := p) (u := .int .i64 0) HL2.out (.inr (.inr (.inr rfl))))
      clear HA2 HL2
      go_wp2
      go_ret
      exact ⟨⟨p, rfl, by omega, by omega⟩, HA3.out, HL3.out⟩
end Go.Proofs.YtjjggmopkfkpaaaGreat

/-
  The document's manager: a block retired, erased, a page dropped. Nothing of one statement alone stands here.
-/
namespace Go.Proofs.YtjjggmopkfkpaaaGreat
open Go.RowKit Crcm Go.ChangeShapes

/-- what a call that tells an error leaves -/
def RmR (w : World) (X : Nat → Prop) (o : Rb) (q : Rq) (nb np sz : Nat) (e : Ending) (w' : World) : Prop :=
  (∃ r : Int, e = .returned (.int .i64 r)) ∧ (∃ dn, RmAt w' X o q nb np sz dn) ∧ Kp (RmF o q) w w'
theorem RmR.same {w : World} {X : Nat → Prop} {o : Rb} {q : Rq} {nb np sz : Nat} {dn : Bool} (h : RmAt w X o q nb np sz dn) (r : Int) : RmR w X o q nb np sz (.returned (.int .i64 r)) w := ⟨⟨r, rfl⟩, ⟨dn, h⟩, Kp.refl _ _⟩

set_option maxRecDepth 100000 in
set_option maxHeartbeats 1000000 in
theorem rretire_any {w : World} {X : Nat → Prop} {o : Rb} {q : Rq} {nb np sz : Nat} {dn : Bool} (h : RmAt w X o q nb np sz dn) (k : Int) :
    Calls Tryz.prog 43 #[.pointer (some ⟨q.d, 0, none⟩), .int .i64 k] w (RmR w X o q nb np sz) := by
  obtain ⟨c0, c1, c2, c3⟩ := h.cells
  obtain ⟨-, -, -, cd, -⟩ := h.chip.geo
  have hnb : nb < 129 := h.chip.good.2.1
  have HT := Lib.hid (rthere_any h k)
  have HH := Lib.hid h
  have HG := Lib.hid (fun n (hn : n < nb) => rgone_any h n hn)
  clear h
  cases dn
  case true =>
    go_enter Tryz.func43, Tryz.ntmps43
    go_wp2
    go_ret
    exact RmR.same HH.out 4
  go_enter Tryz.func43, Tryz.ntmps43
  go_wp2_with fail
  refine HT.out.mono ?_
  rintro e w' ⟨⟨x, rfl, hx⟩, rfl⟩
  cases x
  · go_wp2
    go_ret
    exact RmR.same HH.out 1
  · obtain ⟨h0, h1⟩ := hx rfl
    obtain ⟨n, rfl⟩ : ∃ n : Nat, k = n := ⟨k.toNat, by omega⟩
    have hn : n < nb := by omega
    obtain ⟨y, hy⟩ := HH.out.lv.cell hn
    by_cases t : 0 < y
    · have t1 : decide (0 < y) = true := decide_eq_true t
      go_wp2
      go_ret
      exact RmR.same HH.out 1
    · have t1 : decide (0 < y) = false := decide_eq_false t
      clear hx
      go_wp2_with fail
      refine (HG.out n hn).mono ?_
      rintro e w2 ⟨rfl, hm, hk⟩
      have HM := Lib.hid (And.intro hm hk)
      clear hm hk
      go_wp2
      go_ret
      exact ⟨⟨0, rfl⟩, ⟨false, HM.out.1⟩, HM.out.2⟩

set_option maxRecDepth 100000 in
set_option maxHeartbeats 2000000 in
theorem rmera_any {w : World} {X : Nat → Prop} {o : Rb} {q : Rq} {nb np sz : Nat} {dn : Bool} (h : RmAt w X o q nb np sz dn) (k : Int) :
    Calls Tryz.prog 41 #[.pointer (some ⟨q.d, 0, none⟩), .int .i64 k] w (RmR w X o q nb np sz) := by
  obtain ⟨c0, c1, c2, c3⟩ := h.cells
  obtain ⟨-, -, -, cd, -⟩ := h.chip.geo
  have hnb : nb < 129 := h.chip.good.2.1
  have HT := Lib.hid (rthere_any h k)
  have HH := Lib.hid h
  have HE := Lib.hid (rerase_any h.chip k)
  clear h
  cases dn
  case true =>
    go_enter Tryz.func41, Tryz.ntmps41
    go_wp2
    go_ret
    exact RmR.same HH.out 4
  go_enter Tryz.func41, Tryz.ntmps41
  go_wp2_with fail
  refine HT.out.mono ?_
  rintro e w' ⟨⟨x, rfl, hx⟩, rfl⟩
  cases x
  · go_wp2
    go_ret
    exact RmR.same HH.out 1
  · obtain ⟨h0, h1⟩ := hx rfl
    obtain ⟨n, rfl⟩ : ∃ n : Nat, k = n := ⟨k.toNat, by omega⟩
    have hn : n < nb := by omega
    have hnl : (n : Int) < (nb : Int) := by omega
    obtain ⟨y, hy⟩ := HH.out.lv.cell hn
    obtain ⟨z, hz⟩ := HH.out.st.cell hn
    obtain ⟨u, hu⟩ := HH.out.nx.cell hn
    clear hx
    by_cases t : 0 < y
    · have t1 : decide (0 < y) = true := decide_eq_true t
      go_wp2
      go_ret
      exact RmR.same HH.out 1
    have t1 : decide (0 < y) = false := decide_eq_false t
    by_cases tz : z = 1 ∧ 0 < u
    · obtain ⟨g1, g2⟩ := tz
      subst g1
      have t2 : decide (0 < u) = true := decide_eq_true g2
      go_wp2
      go_ret
      exact RmR.same HH.out 1
    have hzu : ((z == 1) && decide (0 < u)) = false := by
      rw [Bool.and_eq_false_iff]
      by_cases e : z = 1
      · exact .inr (decide_eq_false fun g => tz ⟨e, g⟩)
      · exact .inl (by simpa using e)
    by_cases e1 : z = 1
    case' pos =>
      have t2 : (z == 1) = true := by simpa using e1
      have t3 : decide (0 < u) = false := decide_eq_false fun g => tz ⟨e1, g⟩
    case' neg =>
      have t2 : (z == 1) = false := by simpa using e1
    all_goals
      clear hzu tz t e1
      go_wp2_with fail
      refine HE.out.mono ?_
      rintro e w2 ⟨⟨E, rfl⟩, ⟨dn2, hc2⟩, hk2⟩
      have hm2 := HH.out.chipped hk2 hc2
      have hK2 : Kp (RmF o q) w w2 := hk2.mono (fun b hb => .inl hb)
      have HM2 := Lib.hid hm2
      have HK2 := Lib.hid hK2
      clear hc2 hk2 hm2 hK2 HE HT HH c0 c1 c2 c3 cd hy hz hu
      by_cases e11 : E = 11
      · subst e11
        go_wp2_with fail
        refine (rgone_any HM2.out n hn).mono ?_
        rintro e w3 ⟨rfl, hm3, hk3⟩
        have HM3 := Lib.hid hm3
        have HK3 := Lib.hid (HK2.out.trans hk3)
        clear hm3 hk3
        go_wp2
        go_ret
        exact ⟨⟨11, rfl⟩, ⟨dn2, HM3.out⟩, HK3.out⟩
      have v1 : (E == 11) = false := by simpa using e11
      by_cases e0 : E = 0
      · subst e0
        obtain ⟨c0, c1, c2, c3⟩ := HM2.out.cells
        obtain ⟨x1, hx1⟩ := HM2.out.st.cell hn
        have f1 := HM2.out.st.froz n
        have HA1 := Lib.hid (HM2.out.puts n 0)
        have HL1 := Lib.hid (kpq (i := n) (u := .int .i64 0) HK2.out (.inr (.inl rfl)))
        clear HM2 HK2
        go_upto_region 10 with (fail)
        generalize (w2.setCell ⟨q.s, n, none⟩ (.int .i64 0)) = w3 at HA1 HL1 ⊢
        clear c0 c1 c2 c3 hx1 f1
        obtain ⟨c0, c1, c2, c3⟩ := HA1.out.cells
        obtain ⟨x3, hx3⟩ := HA1.out.nx.cell hn
        have f3 := HA1.out.nx.froz n
        have HA3 := Lib.hid (HA1.out.putn n 0)
        have HL3 := Lib.hid (kpq (i := n) (u := .int .i64 0) HL1.out (.inr (.inr (.inr rfl))))
        clear HA1 HL1
        go_wp2
        go_ret
        exact ⟨⟨0, rfl⟩, ⟨dn2, HA3.out⟩, HL3.out⟩
      have v0 : (E == 0) = false := by simpa using e0
      go_wp2
      go_ret
      exact ⟨⟨E, rfl⟩, ⟨dn2, HM2.out⟩, HK2.out⟩
end Go.Proofs.YtjjggmopkfkpaaaGreat

/-
  The document's manager: a page dropped. Nothing of one statement alone stands here.
-/
namespace Go.Proofs.YtjjggmopkfkpaaaGreat
open Go.RowKit Crcm Go.ChangeShapes

set_option maxRecDepth 100000 in
set_option maxHeartbeats 2000000 in
theorem rmdrop_any {w : World} {X : Nat → Prop} {o : Rb} {q : Rq} {nb np sz : Nat} {dn : Bool} (h : RmAt w X o q nb np sz dn) (k : Int) :
    Calls Tryz.prog 12 #[.pointer (some ⟨q.d, 0, none⟩), .int .i64 k] w (RmR w X o q nb np sz) := by
  obtain ⟨c0, c1, c2, c3⟩ := h.cells
  have hnb : nb < 129 := h.chip.good.2.1
  have HT := Lib.hid (rthere_any h k)
  have HH := Lib.hid h
  clear h
  go_enter Tryz.func12, Tryz.ntmps12
  go_wp2_with fail
  refine HT.out.mono ?_
  rintro e w' ⟨⟨x, rfl, hx⟩, rfl⟩
  cases x
  · go_wp2
    go_ret
    exact RmR.same HH.out 1
  · obtain ⟨h0, h1⟩ := hx rfl
    obtain ⟨n, rfl⟩ : ∃ n : Nat, k = n := ⟨k.toNat, by omega⟩
    have hn : n < nb := by omega
    have hnl : (n : Int) < (nb : Int) := by omega
    obtain ⟨y, hy⟩ := HH.out.lv.cell hn
    have fy := HH.out.lv.froz n
    clear hx HT
    by_cases t : y = 0
    · have t1 : (y == 0) = true := by simpa using t
      go_wp2
      go_ret
      exact RmR.same HH.out 1
    have t1 : (y == 0) = false := by simpa using t
    have HA := Lib.hid ((HH.out.putl n (wrap64 (y - 1))).below (Below.refl _ _).drew)
    have HL := Lib.hid (kpq (i := n) (u := .int .i64 (wrap64 (y - 1))) (Kp.refl (RmF o q) w) (.inr (.inr (.inl rfl)))).drew
    clear t
    go_upto_region 3 with (fail)
    go_region
    generalize (w.setCell ⟨q.l, n, none⟩ (.int .i64 (wrap64 (y - 1)))).drew = w3 at HA HL ⊢
    clear c0 c1 c2 c3 hy fy
    obtain ⟨c0, c1, c2, c3⟩ := HA.out.cells
    obtain ⟨y2, hy2⟩ := HA.out.lv.cell hn
    obtain ⟨z2, hz2⟩ := HA.out.st.cell hn
    have f1 := HA.out.st.froz n
    have HA1 := Lib.hid (HA.out.puts n 3)
    have HL1 := Lib.hid (kpq (i := n) (u := .int .i64 3) HL.out (.inr (.inl rfl)))
    by_cases e1 : y2 = 0
    · subst e1
      by_cases e2 : z2 = 2
      · subst e2
        go_wp2
        go_ret
        exact ⟨⟨0, rfl⟩, ⟨dn, HA1.out⟩, HL1.out⟩
      · have t3 : (z2 == 2) = false := by simpa using e2
        go_wp2
        go_ret
        exact ⟨⟨0, rfl⟩, ⟨dn, HA.out⟩, HL.out⟩
    · have t2 : (y2 == 0) = false := by simpa using e1
      go_wp2
      go_ret
      exact ⟨⟨0, rfl⟩, ⟨dn, HA.out⟩, HL.out⟩
end Go.Proofs.YtjjggmopkfkpaaaGreat
