/-
  The document's manager while its rows are made. Nothing of one statement alone stands here.
-/
import Derived.Test.YtjjggmopkfkpaaaGreatKX
import Derived.Test.YtjjggmopkfkpaaaGreatKS
import Derived.Test.YtjjggmopkfkpaaaGreatKL
import Derived.OwnWalk
import Derived.Deep.AppendLies
namespace Go.Proofs.YtjjggmopkfkpaaaGreat
open Go.RowKit Crcm Go.ChangeShapes

theorem grown_set (w : World) (p : Addr) (u : Value) : w.grownBy (w.setCell p u) (some p.block) :=
  ⟨rfl, rfl, rfl, by simp [World.setCell], fun k _ hne => Below.heap_setCell _ _ _ _ (fun e => hne (by rw [e]))⟩
theorem own_form {w : World} {base k size : Nat} {v : Value} {xs : List Value} {e : TypeId} (h : w.ownsRow base e size v k xs) : ∃ a c, v = .slice a k c := by
  rcases h.2 with ⟨rfl, rfl⟩ | ⟨g, cap, cur, rfl, _⟩
  · exact ⟨none, 0, rfl⟩
  · exact ⟨_, cap, rfl⟩
/-- a row that holds ints -/
def OwI (w : World) (B : Nat) (v : Value) (k : Nat) : Prop := ∃ xs : List Int, w.ownsRow B 3 1 v k (xs.map (Value.int .i64))
theorem OwI.kept {w w' : World} {B k : Nat} {v : Value} {row : Option Nat} (h : OwI w B v k) (hg : w.grownBy w' row) (hne : v.ownBlock = none ∨ v.ownBlock ≠ row) : OwI w' B v k := h.imp fun _ h => h.kept hg hne
theorem OwI.alloc {w : World} {B k : Nat} {v : Value} (h : OwI w B v k) (o : Obj) : OwI (w.alloc o) B v k := h.imp fun _ h => h.alloc o
theorem OwI.lt {w : World} {B k : Nat} {v : Value} (h : OwI w B v k) : ∀ g, v.ownBlock = some g → B ≤ g ∧ g < w.heap.size := by
  obtain ⟨_, h⟩ := h
  exact h.lt
theorem OwI.row {w : World} {B k : Nat} {v : Value} (h : OwI w B v k) (h0 : 0 < k) : ∃ g cap, v = .slice (some ⟨g, 0, none⟩) k cap ∧ B ≤ g ∧ RwN w g k := by
  obtain ⟨xs, hlen, h⟩ := h
  rcases h with ⟨rfl, h0'⟩ | ⟨g, cap, cur, rfl, hb, hg, hn, hc, hs, ht⟩
  · omega
  refine ⟨g, cap, rfl, hb, cur, hg, fun i hi => ?_⟩
  have h1 : (cur.toList.take (k * 1))[i]? = some (.int .i64 (xs[i]'(by rw [List.length_map] at hlen; omega))) := by
    rw [ht, List.getElem?_map, List.getElem?_eq_getElem (by rw [List.length_map] at hlen; omega)]
    rfl
  rw [List.getElem?_take] at h1
  split at h1
  · rw [Array.getElem?_toList] at h1
    exact ⟨_, h1⟩
  · cases h1

/-- the document's manager while its rows are made -/
structure Mk (w0 w : World) (o : Rb) (D gn nb : Nat) (r b : Int) (v1 : Value) (k1 : Nat) (v2 : Value) (k2 : Nat) : Prop where
  bel : Below w0.heap.size w0 w
  box : Blk w D 82 #[.pointer (some ⟨o.g, 0, none⟩), v1, v2, .slice (some ⟨gn, 0, none⟩) nb nb, .int .i64 r, .int .i64 b, .bool false]
  nx : RwN w gn nb
  s : OwI w (D + 1) v1 k1
  l : OwI w (D + 1) v2 k2
  ne : ∀ g, v1.ownBlock = some g → v2.ownBlock ≠ some g
  lo : w0.heap.size ≤ gn ∧ gn < D

theorem RwN.block {w w' : World} {g nb : Nat} (h : RwN w g nb) (hg : w'.heap[g]? = w.heap[g]?) : RwN w' g nb := h.imp fun _ h => ⟨hg.trans h.1, h.2⟩
theorem RwN.lt {w : World} {g nb : Nat} (h : RwN w g nb) : g < w.heap.size := by
  obtain ⟨_, h, -⟩ := h
  exact h.lt

theorem Mk.push1 {w0 w w1 : World} {o : Rb} {D gn nb : Nat} {r b : Int} {v1 v2 v' : Value} {k1 k2 : Nat} (h : Mk w0 w o D gn nb r b v1 k1 v2 k2) (o' : Obj) (hown : OwI w1 (D + 1) v' (k1 + 1)) (hg : (w.alloc o').grownBy w1 v1.ownBlock) (hob : v'.ownBlock = v1.ownBlock ∨ v'.ownBlock = some (w.alloc o').heap.size) :
    Mk w0 (w1.setCell ⟨D, 1, none⟩ v') o D gn nb r b v' (k1 + 1) v2 k2 := by
  have hD := h.box.lt
  have hs : (w.alloc o').heap.size = w.heap.size + 1 := by simp
  have hf : ∀ i, i ≤ D → w1.heap[i]? = w.heap[i]? := fun i hi => (hg.block i (by omega) (fun e => by have := (h.s.lt i e.symm).1; omega)).trans (Below.heap_alloc w o' i (by omega))
  have hb := h.bel.size
  have hbox : Blk w1 D _ _ := (hf D (Nat.le_refl _)).trans h.box
  refine ⟨((h.bel.alloc hb o').grown hg (by omega) (fun k e => by have := (h.s.lt k e).1; have := h.lo; omega)).setCell (p := ⟨D, 1, none⟩) (by have := h.lo; show w0.heap.size ≤ D; omega) v', hbox.put 1 v', ?_, ?_, ?_, ?_, h.lo⟩
  · exact h.nx.block ((Below.heap_setCell _ _ _ _ (fun e => by have e2 : gn = D := e; have := h.lo; omega)).trans (hf gn (by have := h.lo; omega)))
  · exact hown.kept (grown_set _ _ _) (.inr (fun e => by have := (hown.lt _ e).1; have e2 : (⟨D, 1, none⟩ : Addr).block = D := rfl; omega))
  · refine ((h.l.alloc o').kept hg ?_).kept (grown_set _ _ _) (.inr (fun e => by have := (h.l.lt _ e).1; have e2 : (⟨D, 1, none⟩ : Addr).block = D := rfl; omega))
    rcases e : v2.ownBlock with _ | g
    · exact .inl rfl
    · exact .inr (fun e2 => h.ne g e2.symm e)
  · intro g e e2
    rcases hob with h1 | h1
    · exact h.ne g (h1.symm.trans e) e2
    · have h3 := (h.l.lt g e2).2
      have h4 : (w.alloc o').heap.size = g := by rw [h1] at e; injection e
      omega

theorem Mk.push2 {w0 w w1 : World} {o : Rb} {D gn nb : Nat} {r b : Int} {v1 v2 v' : Value} {k1 k2 : Nat} (h : Mk w0 w o D gn nb r b v1 k1 v2 k2) (o' : Obj) (hown : OwI w1 (D + 1) v' (k2 + 1)) (hg : (w.alloc o').grownBy w1 v2.ownBlock) (hob : v'.ownBlock = v2.ownBlock ∨ v'.ownBlock = some (w.alloc o').heap.size) :
    Mk w0 (w1.setCell ⟨D, 2, none⟩ v') o D gn nb r b v1 k1 v' (k2 + 1) := by
  have hD := h.box.lt
  have hs : (w.alloc o').heap.size = w.heap.size + 1 := by simp
  have hf : ∀ i, i ≤ D → w1.heap[i]? = w.heap[i]? := fun i hi => (hg.block i (by omega) (fun e => by have := (h.l.lt i e.symm).1; omega)).trans (Below.heap_alloc w o' i (by omega))
  have hb := h.bel.size
  have hbox : Blk w1 D _ _ := (hf D (Nat.le_refl _)).trans h.box
  refine ⟨((h.bel.alloc hb o').grown hg (by omega) (fun k e => by have := (h.l.lt k e).1; have := h.lo; omega)).setCell (p := ⟨D, 2, none⟩) (by have := h.lo; show w0.heap.size ≤ D; omega) v', hbox.put 2 v', ?_, ?_, ?_, ?_, h.lo⟩
  · exact h.nx.block ((Below.heap_setCell _ _ _ _ (fun e => by have e2 : gn = D := e; have := h.lo; omega)).trans (hf gn (by have := h.lo; omega)))
  · refine ((h.s.alloc o').kept hg ?_).kept (grown_set _ _ _) (.inr (fun e => by have := (h.s.lt _ e).1; have e2 : (⟨D, 2, none⟩ : Addr).block = D := rfl; omega))
    rcases e : v1.ownBlock with _ | g
    · exact .inl rfl
    · exact .inr (fun e2 => h.ne g e e2.symm)
  · exact hown.kept (grown_set _ _ _) (.inr (fun e => by have := (hown.lt _ e).1; have e2 : (⟨D, 2, none⟩ : Addr).block = D := rfl; omega))
  · intro g e e2
    rcases hob with h1 | h1
    · exact h.ne g e (h1.symm.trans e2)
    · have h3 := (h.s.lt g e).2
      have h4 : (w.alloc o').heap.size = g := by rw [h1] at e2; injection e2
      omega
theorem Mk.boxed {w0 w w1 : World} {o : Rb} {D gn nb : Nat} {r b : Int} {v1 v2 : Value} {k1 k2 : Nat} (h : Mk w0 w o D gn nb r b v1 k1 v2 k2) (o' : Obj) {row : Option Nat} (hg : (w.alloc o').grownBy w1 row) (hr : row = v1.ownBlock ∨ row = v2.ownBlock) :
    Blk w1 D 82 #[.pointer (some ⟨o.g, 0, none⟩), v1, v2, .slice (some ⟨gn, 0, none⟩) nb nb, .int .i64 r, .int .i64 b, .bool false] := by
  have hD := h.box.lt
  refine ((hg.block D (by simp; omega) (fun e => ?_)).trans (Below.heap_alloc w o' D (by omega))).trans h.box
  rcases hr with rfl | rfl
  · have := (h.s.lt D e.symm).1; omega
  · have := (h.l.lt D e.symm).1; omega
/-- a draw turns nothing -/
theorem Mk.later {w0 w w' : World} {o : Rb} {D gn nb : Nat} {r b : Int} {v1 v2 : Value} {k1 k2 : Nat} (h : Mk w0 w o D gn nb r b v1 k1 v2 k2) (hb : Below w.heap.size w w') : Mk w0 w' o D gn nb r b v1 k1 v2 k2 := by
  have hg : w.grownBy w' none := ⟨hb.os, hb.tape, hb.output, hb.size, fun k hk _ => hb.block k hk⟩
  exact ⟨h.bel.trans (hb.mono h.bel.size), h.box.below hb h.box.lt, h.nx.block (hb.block _ h.nx.lt), h.s.kept hg (by rcases v1.ownBlock with _ | g; exact .inl rfl; exact .inr (by simp)), h.l.kept hg (by rcases v2.ownBlock with _ | g; exact .inl rfl; exact .inr (by simp)), h.ne, h.lo⟩
/-- the rows are whole: a manager -/
theorem Mk.at {w0 w : World} {X : Nat → Prop} {o : Rb} {D gn nb np sz : Nat} {r b : Int} {v1 v2 : Value} (h : Mk w0 w o D gn nb r b v1 nb v2 nb) (hc : RcAt w0 X o nb np sz false) :
    ∃ q : Rq, q.d = D ∧ v1 = .slice (some ⟨q.s, 0, none⟩) nb q.cs ∧ v2 = .slice (some ⟨q.l, 0, none⟩) nb q.cl ∧ RmAt w (fun b => X b ∨ q.F b) o q nb np sz false ∧ ∀ b, q.F b → w0.heap.size ≤ b := by
  have hn : 0 < nb := by have := hc.good; unfold Gd at this; omega
  obtain ⟨g1, c1, rfl, hb1, R1⟩ := h.s.row hn
  obtain ⟨g2, c2, rfl, hb2, R2⟩ := h.l.row hn
  have hne : g1 ≠ g2 := fun e => h.ne g1 rfl (by rw [e]; rfl)
  have hlo := h.lo
  have hd := h.box.lt
  have h1 := R1.lt
  have h2 := R2.lt
  have h3 := h.nx.lt
  refine ⟨⟨D, g1, g2, gn, c1, c2, nb⟩, rfl, rfl, rfl, ⟨hc.widen h.bel (fun b hb => hb.imp id ?_) (fun b hb => ?_) (fun b hb => .inl hb), ⟨r, b, false, h.box⟩, R1, R2, h.nx, fun b hb => .inr hb, fun b hb hb2 => ?_, ?_⟩, ?_⟩
  · rintro (rfl | rfl | rfl | rfl) <;> omega
  · rcases hb with hb | hb
    · have := hc.old b hb; have := h.bel.size; omega
    · rcases hb with rfl | rfl | rfl | rfl <;> omega
  · have h5 := hc.old b (hc.inX b hb2)
    rcases hb with rfl | rfl | rfl | rfl <;> omega
  · dsimp only; exact ⟨by omega, by omega, by omega, hne, by omega, by omega⟩
  · rintro b (rfl | rfl | rfl | rfl) <;> omega
theorem RmAt.pute {w : World} {X : Nat → Prop} {o : Rb} {q : Rq} {nb np sz : Nat} {dn : Bool} (h : RmAt w X o q nb np sz dn) (t : Bool) : RmAt (w.setCell ⟨q.d, 6, none⟩ (.bool t)) X o q nb np sz dn := by
  obtain ⟨n1, n2, n3, n4, n5, n6⟩ := h.ne
  have hK := Kp.one w ⟨q.d, 6, none⟩ (.bool t)
  obtain ⟨r, b, ev, hb⟩ := h.blk
  refine ⟨h.chip.kp hK (fun b hb => by rw [hb]; exact h.inX _ (.inl rfl)) (fun b hb e => h.far q.d (.inl rfl) (by have e2 : b = q.d := e; rw [← e2]; exact hb)), ⟨r, b, t, hb.put 6 (.bool t)⟩, h.st.far (fun e => n1 e.symm) _, h.lv.far (fun e => n2 e.symm) _, h.nx.far (fun e => n3 e.symm) _, h.inX, h.far, h.ne⟩
end Go.Proofs.YtjjggmopkfkpaaaGreat

/-
  The document's greatest and least erase counts of a row of blocks, whatever stands in it. Nothing of one statement alone stands here.
-/
namespace Go.Proofs.YtjjggmopkfkpaaaGreat
open Go.RowKit Crcm Gcm Go.ChangeShapes

set_option maxRecDepth 100000 in
set_option maxHeartbeats 1000000 in
theorem rmgreat_any {w : World} {g cap n : Nat} {l : List Bk} (h : OwnB w g l) (hl : l.length = n) (hn : n < 129) :
    Calls Tryz.prog 58 #[.slice (some ⟨g, 0, none⟩) n cap] w fun e w' => (∃ x : Int, e = .returned (.int .i64 x)) ∧ w = w' := by
  have HH := Lib.hid h
  have HL := Lib.hid hl
  clear h hl
  go_enter Tryz.func58, Tryz.ntmps58
  go_wp2_with fail
  go_loopw [3, 4, 5] (fun s b i wr => ∃ (k : Nat) (z : Int) (t : Bool), k ≤ n ∧ i = .int .i64 k ∧ s = .int .i64 z ∧ b = .bool t ∧ w = wr) (fun _ _ i _ => n - (intOf i).toNat)
  case atStart => exact ⟨0, 0, false, by omega, rfl, rfl, rfl, rfl⟩
  case round =>
    obtain ⟨k, z, t, hk, rfl, rfl, rfl, rfl⟩ := hrel
    by_cases hlt : k < n
    · have kl : (k : Int) < (n : Int) := by omega
      obtain ⟨e0, -, e2, -⟩ := HH.out.at k (by rw [HL.out]; exact hlt)
      generalize l[k]!.st = st at e0
      generalize l[k]!.wr = wv at e2
      by_cases h4 : st = 4
      · subst h4
        go_wp2
        go_roundw
        case rel => exact ⟨k + 1, z, t, by omega, by go_num, rfl, rfl, trivial⟩
        case measure => simp [intOf]; omega
      have t4 : (st != 4) = true := by simpa using h4
      cases t
      · go_wp2
        go_roundw
        case rel => exact ⟨k + 1, wv, true, by omega, by go_num, rfl, rfl, trivial⟩
        case measure => simp [intOf]; omega
      · by_cases hz : z < wv
        · have tz : decide (z < wv) = true := decide_eq_true hz
          go_wp2
          go_roundw
          case rel => exact ⟨k + 1, wv, true, by omega, by go_num, rfl, rfl, trivial⟩
          case measure => simp [intOf]; omega
        · have tz : decide (z < wv) = false := decide_eq_false hz
          go_wp2
          go_roundw
          case rel => exact ⟨k + 1, z, true, by omega, by go_num, rfl, rfl, trivial⟩
          case measure => simp [intOf]; omega
    · have kl : ¬ (k : Int) < (n : Int) := by omega
      go_wp2
      go_ret
      exact ⟨⟨z, rfl⟩, rfl⟩

set_option maxRecDepth 100000 in
set_option maxHeartbeats 1000000 in
theorem rmleast_any {w : World} {g cap n : Nat} {l : List Bk} (h : OwnB w g l) (hl : l.length = n) (hn : n < 129) :
    Calls Tryz.prog 59 #[.slice (some ⟨g, 0, none⟩) n cap] w fun e w' => (∃ x : Int, e = .returned (.int .i64 x)) ∧ w = w' := by
  have HH := Lib.hid h
  have HL := Lib.hid hl
  clear h hl
  go_enter Tryz.func59, Tryz.ntmps59
  go_wp2_with fail
  go_loopw [3, 4, 5] (fun s b i wr => ∃ (k : Nat) (z : Int) (t : Bool), k ≤ n ∧ i = .int .i64 k ∧ s = .int .i64 z ∧ b = .bool t ∧ w = wr) (fun _ _ i _ => n - (intOf i).toNat)
  case atStart => exact ⟨0, 0, false, by omega, rfl, rfl, rfl, rfl⟩
  case round =>
    obtain ⟨k, z, t, hk, rfl, rfl, rfl, rfl⟩ := hrel
    by_cases hlt : k < n
    · have kl : (k : Int) < (n : Int) := by omega
      obtain ⟨e0, -, e2, -⟩ := HH.out.at k (by rw [HL.out]; exact hlt)
      generalize l[k]!.st = st at e0
      generalize l[k]!.wr = wv at e2
      by_cases h4 : st = 4
      · subst h4
        go_wp2
        go_roundw
        case rel => exact ⟨k + 1, z, t, by omega, by go_num, rfl, rfl, trivial⟩
        case measure => simp [intOf]; omega
      have t4 : (st != 4) = true := by simpa using h4
      cases t
      · go_wp2
        go_roundw
        case rel => exact ⟨k + 1, wv, true, by omega, by go_num, rfl, rfl, trivial⟩
        case measure => simp [intOf]; omega
      · by_cases hz : wv < z
        · have tz : decide (wv < z) = true := decide_eq_true hz
          go_wp2
          go_roundw
          case rel => exact ⟨k + 1, wv, true, by omega, by go_num, rfl, rfl, trivial⟩
          case measure => simp [intOf]; omega
        · have tz : decide (wv < z) = false := decide_eq_false hz
          go_wp2
          go_roundw
          case rel => exact ⟨k + 1, z, true, by omega, by go_num, rfl, rfl, trivial⟩
          case measure => simp [intOf]; omega
    · have kl : ¬ (k : Int) < (n : Int) := by omega
      go_wp2
      go_ret
      exact ⟨⟨z, rfl⟩, rfl⟩
end Go.Proofs.YtjjggmopkfkpaaaGreat

/-
  The document's manager is not opened: refusals ahead of its blocks. Nothing of one statement alone stands here.
-/
namespace Go.Proofs.YtjjggmopkfkpaaaGreat
open Go.RowKit Crcm Go.ChangeShapes

set_option maxRecDepth 100000 in
set_option maxHeartbeats 1000000 in
theorem rmopen_down {w : World} {X : Nat → Prop} {o : Rb} {nb np sz : Nat} (h : RcAt w X o nb np sz true) (fa la : Option Addr) (n1 c1 n2 c2 : Nat) (r b : Int) :
    Calls Tryz.prog 26 #[.pointer (some ⟨o.g, 0, none⟩), .slice fa n1 c1, .slice la n2 c2, .int .i64 r, .int .i64 b] w fun e w' => e = .returned (.tuple #[.pointer none, .int .i64 4]) ∧ w = w' := by
  obtain ⟨-, -, -, cd, -⟩ := h.geo
  clear h
  go_enter Tryz.func26, Tryz.ntmps26
  go_wp2
  go_ret2
  exact ⟨rfl, rfl⟩

set_option maxRecDepth 100000 in
set_option maxHeartbeats 1000000 in
theorem rmopen_arg {w : World} {X : Nat → Prop} {o : Rb} {nb np sz : Nat} (h : RcAt w X o nb np sz false) (fa la : Option Addr) (n1 c1 n2 c2 : Nat) (r b : Int) (hx : n1 ≠ nb ∨ n2 ≠ nb ∨ r < 0 ∨ b < 0) :
    Calls Tryz.prog 26 #[.pointer (some ⟨o.g, 0, none⟩), .slice fa n1 c1, .slice la n2 c2, .int .i64 r, .int .i64 b] w fun e w' => e = .returned (.tuple #[.pointer none, .int .i64 1]) ∧ w = w' := by
  obtain ⟨g0, -, -, cd, -⟩ := h.geo
  clear h
  by_cases e1 : n1 = nb
  case neg =>
    have t1 : ((n1 : Int) != (nb : Int)) = true := by simp; omega
    clear hx e1
    go_enter Tryz.func26, Tryz.ntmps26
    go_wp2
    go_ret2
    exact ⟨rfl, rfl⟩
  have t1 : ((n1 : Int) != (nb : Int)) = false := by simp; omega
  by_cases e2 : n2 = nb
  case neg =>
    have t2 : ((n2 : Int) != (nb : Int)) = true := by simp; omega
    clear hx e1 e2
    go_enter Tryz.func26, Tryz.ntmps26
    go_wp2
    go_ret2
    exact ⟨rfl, rfl⟩
  have t2 : ((n2 : Int) != (nb : Int)) = false := by simp; omega
  by_cases e3 : r < 0
  case pos =>
    have t3 : decide (r < 0) = true := decide_eq_true e3
    clear hx e1 e2
    go_enter Tryz.func26, Tryz.ntmps26
    go_wp2
    go_ret2
    exact ⟨rfl, rfl⟩
  have t3 : decide (r < 0) = false := decide_eq_false e3
  have e4 : b < 0 := by omega
  have t4 : decide (b < 0) = true := decide_eq_true e4
  clear hx e1 e2
  go_enter Tryz.func26, Tryz.ntmps26
  go_wp2
  go_ret2
  exact ⟨rfl, rfl⟩
end Go.Proofs.YtjjggmopkfkpaaaGreat
