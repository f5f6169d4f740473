/-
  The document's chip in memory, and its small calls: what a block and a page answer, a page's bytes filled up.
-/
import Derived.Test.YtjjggmopkfkpaaaGreatKF
import Derived.Test.YtjjggmopkfkpaaaGreatKB
import Derived.Maps.AppendAt
import Derived.Lib.Bytes
import Derived.WalkMore
import Derived.Deep.RegionHeld3
namespace Go.Proofs.YtjjggmopkfkpaaaGreat
open Go.RowKit Crcm Go.ChangeShapes

/-- the numbers of the blocks of memory that are the document's chip's own: itself, its pages, next pages, broken off, bad, wear -/
structure Rb where
  g : Nat
  p : Nat
  n : Nat
  k : Nat
  b : Nat
  v : Nat
def Rb.F (o : Rb) (m : Nat) : Prop := m = o.g ∨ m = o.p ∨ m = o.n ∨ m = o.k ∨ m = o.b ∨ m = o.v
/-- a slice value that reads as bytes outside what anyone may write -/
def BvX (w : World) (X : Nat → Prop) (v : Value) : Prop := ∃ A l c, v = .slice A l.length c ∧ l.length ≤ c ∧ RwX w X A l
theorem BvX.kp {F X : Nat → Prop} {w w' : World} {v : Value} (h : BvX w X v) (hk : Kp F w w') (hf : ∀ b, F b → X b) : BvX w' X v := by
  obtain ⟨A, l, c, h1, h2, h3⟩ := h
  exact ⟨A, l, c, h1, h2, h3.kp hk hf⟩
/-- what stands at the chip's own block -/
def rcV (o : Rb) (nb np sz : Nat) (fv : Value) (si : Int) (dn : Bool) (st rd : Int) : Array Value :=
  #[.int .i64 nb, .int .i64 np, .int .i64 sz, .slice (some ⟨o.p, 0, none⟩) (nb * np : Nat) (nb * np : Nat), .slice (some ⟨o.n, 0, none⟩) nb nb, .slice (some ⟨o.k, 0, none⟩) nb nb, .slice (some ⟨o.b, 0, none⟩) nb nb, .slice (some ⟨o.v, 0, none⟩) nb nb, fv, .int .i64 si, .bool dn, .int .i64 st, .int .i64 rd]
/-- the document's chip in memory; X: what may be written by anyone -/
structure RcAt (w : World) (X : Nat → Prop) (o : Rb) (nb np sz : Nat) (dn : Bool) : Prop where
  good : Gd nb np sz
  old : ∀ b, X b → b < w.heap.size
  inX : ∀ b, o.F b → X b
  ne : o.g ≠ o.p ∧ o.g ≠ o.n ∧ o.g ≠ o.k ∧ o.g ≠ o.b ∧ o.g ≠ o.v ∧ o.p ≠ o.n ∧ o.p ≠ o.k ∧ o.p ≠ o.b ∧ o.p ≠ o.v ∧ o.n ≠ o.k ∧ o.n ≠ o.b ∧ o.n ≠ o.v ∧ o.k ≠ o.b ∧ o.k ≠ o.v ∧ o.b ≠ o.v
  chip : ∃ fv fl si st rd, Blk w o.g 80 (rcV o nb np sz fv si dn st rd) ∧ FlAt w X fv fl
  pages : ∃ cs, Blk w o.p 40 cs ∧ cs.size = nb * np ∧ ∀ i, i < nb * np → ∃ v, cs[i]? = some v ∧ BvX w X v
  next : ∃ cs, Blk w o.n 3 cs ∧ cs.size = nb ∧ ∀ i, i < nb → ∃ z, cs[i]? = some (.int .i64 z)
  broken : ∃ cs, Blk w o.k 4 cs ∧ cs.size = nb ∧ ∀ i, i < nb → ∃ z, cs[i]? = some (.bool z)
  bad : ∃ cs, Blk w o.b 4 cs ∧ cs.size = nb ∧ ∀ i, i < nb → ∃ z, cs[i]? = some (.bool z)
  wear : ∃ cs, Blk w o.v 3 cs ∧ cs.size = nb ∧ ∀ i, i < nb → ∃ z, cs[i]? = some (.int .i64 z)

theorem RcAt.kp {F X : Nat → Prop} {w w' : World} {o : Rb} {nb np sz : Nat} {dn : Bool} (h : RcAt w X o nb np sz dn) (hk : Kp F w w') (hf : ∀ b, F b → X b) (hd : ∀ b, o.F b → ¬ F b) : RcAt w' X o nb np sz dn := by
  refine ⟨h.good, fun b hb => Nat.lt_of_lt_of_le (h.old b hb) hk.size, h.inX, h.ne, ?_, ?_, ?_, ?_, ?_, ?_⟩
  · obtain ⟨fv, fl, si, st, rd, h1, h2⟩ := h.chip
    exact ⟨fv, fl, si, st, rd, h1.kp hk (hd _ (.inl rfl)), h2.kp hk hf⟩
  · obtain ⟨cs, h1, h2, h3⟩ := h.pages
    refine ⟨cs, h1.kp hk (hd _ (.inr (.inl rfl))), h2, fun i hi => ?_⟩
    obtain ⟨v, g1, g2⟩ := h3 i hi
    exact ⟨v, g1, g2.kp hk hf⟩
  · obtain ⟨cs, h1, h2⟩ := h.next
    exact ⟨cs, h1.kp hk (hd _ (.inr (.inr (.inl rfl)))), h2⟩
  · obtain ⟨cs, h1, h2⟩ := h.broken
    exact ⟨cs, h1.kp hk (hd _ (.inr (.inr (.inr (.inl rfl))))), h2⟩
  · obtain ⟨cs, h1, h2⟩ := h.bad
    exact ⟨cs, h1.kp hk (hd _ (.inr (.inr (.inr (.inr (.inl rfl)))))), h2⟩
  · obtain ⟨cs, h1, h2⟩ := h.wear
    exact ⟨cs, h1.kp hk (hd _ (.inr (.inr (.inr (.inr (.inr rfl)))))), h2⟩
theorem RcAt.below {X : Nat → Prop} {w w' : World} {o : Rb} {nb np sz : Nat} {dn : Bool} (h : RcAt w X o nb np sz dn) (hb : Below w.heap.size w w') : RcAt w' X o nb np sz dn :=
  h.kp (F := fun _ => False) (Kp.of_below hb) (fun _ g => g.elim) (fun _ _ g => g)

/-- the cells that the small calls read -/
theorem RcAt.geo {w : World} {X : Nat → Prop} {o : Rb} {nb np sz : Nat} {dn : Bool} (h : RcAt w X o nb np sz dn) :
    w.cell? ⟨o.g, 0, none⟩ = some (.int .i64 nb) ∧ w.cell? ⟨o.g, 1, none⟩ = some (.int .i64 np) ∧ w.cell? ⟨o.g, 2, none⟩ = some (.int .i64 sz) ∧ w.cell? ⟨o.g, 10, none⟩ = some (.bool dn) ∧ o.g < w.heap.size := by
  obtain ⟨fv, fl, si, st, rd, h1, -⟩ := h.chip
  exact ⟨h1.cell 0, h1.cell 1, h1.cell 2, h1.cell 10, h1.lt⟩

/-- what a block and a page answer -/
def placeF (nb np : Nat) (dn : Bool) (k page : Int) : Int := if dn then 4 else if k < 0 ∨ (nb : Int) ≤ k ∨ page < 0 ∨ (np : Int) ≤ page then 12 else 0

set_option maxRecDepth 100000 in
set_option maxHeartbeats 1000000 in
theorem rplace_any {w : World} {X : Nat → Prop} {o : Rb} {nb np sz : Nat} {dn : Bool} (h : RcAt w X o nb np sz dn) (k page : Int) :
    Calls Tryz.prog 69 #[.pointer (some ⟨o.g, 0, none⟩), .int .i64 k, .int .i64 page] w fun e w' => e = .returned (.int .i64 (placeF nb np dn k page)) ∧ w = w' := by
  obtain ⟨c0, c1, -, c10, -⟩ := h.geo
  clear h
  unfold placeF
  cases dn
  · by_cases h1 : k < 0
    · go_enter Tryz.func69, Tryz.ntmps69
      go_wp2
      go_ret
      exact ⟨rfl, rfl⟩
    · by_cases h2 : (nb : Int) ≤ k
      · go_enter Tryz.func69, Tryz.ntmps69
        go_wp2
        go_ret
        exact ⟨rfl, rfl⟩
      · by_cases h3 : page < 0
        · go_enter Tryz.func69, Tryz.ntmps69
          go_wp2
          go_ret
          exact ⟨rfl, rfl⟩
        · by_cases h4 : (np : Int) ≤ page
          · go_enter Tryz.func69, Tryz.ntmps69
            go_wp2
            go_ret
            exact ⟨rfl, rfl⟩
          · go_enter Tryz.func69, Tryz.ntmps69
            go_wp2
            go_ret
            exact ⟨rfl, rfl⟩
  · go_enter Tryz.func69, Tryz.ntmps69
    go_wp2
    go_ret
    exact ⟨rfl, rfl⟩

/-- bytes, and bytes 255 behind -/
def flF (l : List Int) (k : Nat) : List Int := (List.range k).map fun j => l.getD j 255
theorem flF_len (l : List Int) (k : Nat) : (flF l k).length = k := by simp [flF]
theorem flF_succ (l : List Int) (k : Nat) : flF l (k + 1) = flF l k ++ [l.getD k 255] := by simp [flF, List.range_succ]
theorem flF_u8 {l : List Int} (h : ∀ x ∈ l, U8 x) (k : Nat) : ∀ x ∈ flF l k, U8 x := fun x hx => by
  simp only [flF, List.mem_map] at hx
  obtain ⟨j, -, rfl⟩ := hx
  rw [List.getD_eq_getElem?_getD]
  rcases hj : l[j]? with _ | y
  · simp [U8]
  · exact h y (List.mem_of_getElem? hj)

set_option maxRecDepth 100000 in
set_option maxHeartbeats 1000000 in
theorem rfull_any {w : World} {X : Nat → Prop} {o : Rb} {nb np sz : Nat} {dn : Bool} (h : RcAt w X o nb np sz dn) (A : Option Addr) (m c : Nat) (l : List Int) (hr : Rw w A l) (hl : l.length = m) :
    Calls Tryz.prog 71 #[.pointer (some ⟨o.g, 0, none⟩), .slice A m c] w fun e w' => (∃ g c', e = .returned (.slice (some ⟨g, 0, none⟩) (sz + 32 : Nat) c') ∧ sz + 32 ≤ c' ∧ w.heap.size ≤ g ∧ Rw w' (some ⟨g, 0, none⟩) (flF l (sz + 32))) ∧ Below w.heap.size w w' := by
  obtain ⟨i0, hi, hz0, hz1, hz2⟩ := info_parts Tryz.info8
  have hsz : sz ≤ 512 := by have := h.good; unfold Gd at this; omega
  have HG := Lib.hid h.geo
  have HR := Lib.hid hr
  have HL := Lib.hid hl
  have hm : m ≤ 2 ^ 63 - 1 := by have := hr.2.1; unfold maxLen at this; omega
  clear h hr hl
  go_enter Tryz.func71, Tryz.ntmps71
  go_wp2_with fail
  go_loopw [5, 6] (fun v i wr => ∃ k : Nat, k ≤ sz + 32 ∧ i = .int .i64 k ∧ Hid (wr.ownsRow w.heap.size 5 1 v k ((flF l k).map (Value.int .u8))) ∧ Hid (Below w.heap.size w wr)) (fun _ i _ => sz + 32 - (intOf i).toNat)
  case atStart => exact ⟨0, by omega, rfl, Lib.hid (World.ownsRow_nil _ _ _ _), Lib.hid (Below.refl _ _)⟩
  case round =>
    obtain ⟨k, hk, rfl, hO, hB⟩ := hrel
    have hs := hB.out.size
    have c2 := (hB.out.cell (p := ⟨o.g, 2, none⟩) HG.out.2.2.2.2).trans HG.out.2.2.1
    by_cases hlt : k < sz + 32
    · have kl : (k : Int) < (sz : Int) + 32 := by omega
      have hown := hO.out
      by_cases hkm : k < m
      · have km : (k : Int) < (m : Int) := by omega
        rcases HR.out.2.2 with h0 | ⟨b, off, rfl, hc⟩
        · rw [h0] at HL; exact absurd HL.out (by simp; omega)
        · have h1 := hc k (by rw [HL.out]; exact hkm)
          have c7 := (hB.out.cell (block_lt_of_cell h1)).trans h1
          have hyy : l.getD k 0 = l.getD k 255 := by
            have : k < l.length := by rw [HL.out]; exact hkm
            simp [List.getD_eq_getElem?_getD, this]
          rw [hyy] at c7
          have HS := Lib.hid (flF_succ l k)
          generalize hy : l.getD k 255 = y at c7 HS
          clear hc h1 hyy hy hO
          go_wp2_with (at_builtin; refine wpList_append_own _ rfl _ _ 40 rfl w.heap.size 5 i0 (.int .u8 0) 1 1 Tryz.underlying40 hi hz0 hz1 hz2 rfl (by decide) _ _ _ rfl (hown.alloc _) ⟨wr.heap.size, 0, none⟩ 1 1 [.int .u8 y] rfl rfl ?c1 ?c2 ?c3 ?c4 ?c5 ?_)
          case c1 => exact cell_one_new _ _ _
          case c2 => intro u hu; simp at hu; subst hu; rfl
          case c3 => unfold maxLen; omega
          case c4 => omega
          case c5 => simp; omega
          intro v' w1 hown1 hgrow _
          have hb1 := Lib.hid ((hB.out.alloc (by omega) _).grown hgrow (by simp; omega) (fun g hg => (hown.lt g hg).1))
          have hH : Hid (w1.ownsRow w.heap.size 5 1 v' (k + 1) ((flF l (k + 1)).map (Value.int .u8))) := Lib.hid (by rw [HS.out]; simpa using hown1)
          clear hown1 hgrow hown c2 c7
          go_wp2
          go_roundw
          case rel => exact ⟨k + 1, by omega, by go_num, hH, hb1⟩
          case measure => simp [intOf]; omega
      · have km : ¬ (k : Int) < (m : Int) := by omega
        have hy : l.getD k 255 = 255 := by
          have : ¬ k < l.length := by rw [HL.out]; exact hkm
          simp [List.getD_eq_getElem?_getD, this]
        have HS := Lib.hid (flF_succ l k)
        rw [hy] at HS
        clear hy hO
        go_wp2_with (at_builtin; refine wpList_append_own _ rfl _ _ 40 rfl w.heap.size 5 i0 (.int .u8 0) 1 1 Tryz.underlying40 hi hz0 hz1 hz2 rfl (by decide) _ _ _ rfl (hown.alloc _) ⟨wr.heap.size, 0, none⟩ 1 1 [.int .u8 255] rfl rfl ?c1 ?c2 ?c3 ?c4 ?c5 ?_)
        case c2 => rfl
        case c3 => unfold maxLen; omega
        case c4 => omega
        case c5 => omega
        intro v' w1 hown1 hgrow _
        have hb1 := Lib.hid ((hB.out.alloc (by omega) _).grown hgrow (by simp; omega) (fun g hg => (hown.lt g hg).1))
        have hH : Hid (w1.ownsRow w.heap.size 5 1 v' (k + 1) ((flF l (k + 1)).map (Value.int .u8))) := Lib.hid (by rw [HS.out]; simpa using hown1)
        clear hown1 hgrow hown c2
        go_wp2
        go_roundw
        case rel => exact ⟨k + 1, by omega, by go_num, hH, hb1⟩
        case measure => simp [intOf]; omega
    · have hkn : k = sz + 32 := by omega
      have kl : ¬ (k : Int) < (sz : Int) + 32 := by omega
      obtain ⟨a2, cap2, rfl, hrw, hlen, hcap⟩ := Rw.of_own hO.out (flF_u8 HR.out.1 k)
      have HW := Lib.hid hrw
      have HC := Lib.hid hcap
      have HK := Lib.hid hkn
      clear hrw hlen hcap hkn
      go_wp2
      go_ret
      refine ⟨?_, hB.out⟩
      have := HK.out
      subst this
      rcases hO.out.2 with ⟨h0, hn⟩ | ⟨g, cap, cur, h0, hg, _⟩
      · omega
      · injection h0 with e1 e2 e3
        subst e1 e3
        exact ⟨g, cap2, rfl, HC.out, hg, HW.out⟩

end Go.Proofs.YtjjggmopkfkpaaaGreat

/-
  Stores into the document's chip in memory, and its calls that store: marking, a script, a stroke.
-/
namespace Go.Proofs.YtjjggmopkfkpaaaGreat
open Go.RowKit Crcm Go.ChangeShapes

theorem FlAt.set {X : Nat → Prop} {w : World} {v : Value} {fl : List Fl} (h : FlAt w X v fl) {p : Addr} (hp : X p.block) (u : Value) : FlAt (w.setCell p u) X v fl :=
  h.kp (F := fun b => b = p.block) (Kp.setCell (F := fun b => b = p.block) (p := p) (Kp.refl _ w) (.inl rfl) u) (fun _ e => e ▸ hp)
theorem BvX.set {X : Nat → Prop} {w : World} {v : Value} (h : BvX w X v) {p : Addr} (hp : X p.block) (u : Value) : BvX (w.setCell p u) X v :=
  h.kp (F := fun b => b = p.block) (Kp.setCell (F := fun b => b = p.block) (p := p) (Kp.refl _ w) (.inl rfl) u) (fun _ e => e ▸ hp)
theorem size_set (w : World) (p : Addr) (u : Value) : w.heap.size ≤ (w.setCell p u).heap.size := ((Kp.refl (fun b => b = p.block) w).setCell (.inl rfl) u).size
theorem row_put {α : Type} (f : α → Value) {cs : Array Value} {n : Nat} (h : cs.size = n ∧ ∀ j, j < n → ∃ z, cs[j]? = some (f z)) (i : Nat) (z : α) :
    (cs.setIfInBounds i (f z)).size = n ∧ ∀ j, j < n → ∃ y, (cs.setIfInBounds i (f z))[j]? = some (f y) := by
  refine ⟨by simpa using h.1, fun j hj => ?_⟩
  rw [Array.getElem?_setIfInBounds]
  split
  · rw [if_pos (by rw [h.1]; omega)]; exact ⟨z, rfl⟩
  · exact h.2 j hj
theorem row_putP (P : Value → Prop) {cs : Array Value} {n : Nat} (h : cs.size = n ∧ ∀ j, j < n → ∃ v, cs[j]? = some v ∧ P v) (i : Nat) (u : Value) (hu : P u) :
    (cs.setIfInBounds i u).size = n ∧ ∀ j, j < n → ∃ v, (cs.setIfInBounds i u)[j]? = some v ∧ P v := by
  refine ⟨by simpa using h.1, fun j hj => ?_⟩
  rw [Array.getElem?_setIfInBounds]
  split
  · rw [if_pos (by rw [h.1]; omega)]; exact ⟨u, rfl, hu⟩
  · exact h.2 j hj

theorem RcAt.putf {w : World} {X : Nat → Prop} {o : Rb} {nb np sz : Nat} {dn : Bool} (h : RcAt w X o nb np sz dn) {v : Value} {gl : List Fl} (hv : FlAt w X v gl) : RcAt (w.setCell ⟨o.g, 8, none⟩ (v)) X o nb np sz dn := by
  obtain ⟨n1, n2, n3, n4, n5, n6, n7, n8, n9, n10, n11, n12, n13, n14, n15⟩ := h.ne
  have hx : X o.g := h.inX _ (by simp [Rb.F])
  refine ⟨h.good, fun b hb => Nat.lt_of_lt_of_le (h.old b hb) (size_set ..), h.inX, h.ne, ?_, ?_, ?_, ?_, ?_, ?_⟩
  · obtain ⟨fv, fl, si, st, rd, h1, h2⟩ := h.chip
    exact ⟨v, gl, si, st, rd, h1.put 8 _, hv.set hx _⟩
  · obtain ⟨cs, h1, h2, h3⟩ := h.pages
    exact ⟨cs, h1.far (by show o.p ≠ o.g; omega) _, h2, fun j hj => (h3 j hj).imp fun v hv => ⟨hv.1, hv.2.set hx _⟩⟩
  · obtain ⟨cs, h1, h2⟩ := h.next
    exact ⟨cs, h1.far (by show o.n ≠ o.g; omega) _, h2⟩
  · obtain ⟨cs, h1, h2⟩ := h.broken
    exact ⟨cs, h1.far (by show o.k ≠ o.g; omega) _, h2⟩
  · obtain ⟨cs, h1, h2⟩ := h.bad
    exact ⟨cs, h1.far (by show o.b ≠ o.g; omega) _, h2⟩
  · obtain ⟨cs, h1, h2⟩ := h.wear
    exact ⟨cs, h1.far (by show o.v ≠ o.g; omega) _, h2⟩
theorem RcAt.puts {w : World} {X : Nat → Prop} {o : Rb} {nb np sz : Nat} {dn : Bool} (h : RcAt w X o nb np sz dn) (z : Int) : RcAt (w.setCell ⟨o.g, 9, none⟩ (.int .i64 z)) X o nb np sz dn := by
  obtain ⟨n1, n2, n3, n4, n5, n6, n7, n8, n9, n10, n11, n12, n13, n14, n15⟩ := h.ne
  have hx : X o.g := h.inX _ (by simp [Rb.F])
  refine ⟨h.good, fun b hb => Nat.lt_of_lt_of_le (h.old b hb) (size_set ..), h.inX, h.ne, ?_, ?_, ?_, ?_, ?_, ?_⟩
  · obtain ⟨fv, fl, si, st, rd, h1, h2⟩ := h.chip
    exact ⟨fv, fl, z, st, rd, h1.put 9 _, h2.set hx _⟩
  · obtain ⟨cs, h1, h2, h3⟩ := h.pages
    exact ⟨cs, h1.far (by show o.p ≠ o.g; omega) _, h2, fun j hj => (h3 j hj).imp fun v hv => ⟨hv.1, hv.2.set hx _⟩⟩
  · obtain ⟨cs, h1, h2⟩ := h.next
    exact ⟨cs, h1.far (by show o.n ≠ o.g; omega) _, h2⟩
  · obtain ⟨cs, h1, h2⟩ := h.broken
    exact ⟨cs, h1.far (by show o.k ≠ o.g; omega) _, h2⟩
  · obtain ⟨cs, h1, h2⟩ := h.bad
    exact ⟨cs, h1.far (by show o.b ≠ o.g; omega) _, h2⟩
  · obtain ⟨cs, h1, h2⟩ := h.wear
    exact ⟨cs, h1.far (by show o.v ≠ o.g; omega) _, h2⟩
theorem RcAt.putd {w : World} {X : Nat → Prop} {o : Rb} {nb np sz : Nat} {dn : Bool} (h : RcAt w X o nb np sz dn) (z : Bool) : RcAt (w.setCell ⟨o.g, 10, none⟩ (.bool z)) X o nb np sz z := by
  obtain ⟨n1, n2, n3, n4, n5, n6, n7, n8, n9, n10, n11, n12, n13, n14, n15⟩ := h.ne
  have hx : X o.g := h.inX _ (by simp [Rb.F])
  refine ⟨h.good, fun b hb => Nat.lt_of_lt_of_le (h.old b hb) (size_set ..), h.inX, h.ne, ?_, ?_, ?_, ?_, ?_, ?_⟩
  · obtain ⟨fv, fl, si, st, rd, h1, h2⟩ := h.chip
    exact ⟨fv, fl, si, st, rd, h1.put 10 _, h2.set hx _⟩
  · obtain ⟨cs, h1, h2, h3⟩ := h.pages
    exact ⟨cs, h1.far (by show o.p ≠ o.g; omega) _, h2, fun j hj => (h3 j hj).imp fun v hv => ⟨hv.1, hv.2.set hx _⟩⟩
  · obtain ⟨cs, h1, h2⟩ := h.next
    exact ⟨cs, h1.far (by show o.n ≠ o.g; omega) _, h2⟩
  · obtain ⟨cs, h1, h2⟩ := h.broken
    exact ⟨cs, h1.far (by show o.k ≠ o.g; omega) _, h2⟩
  · obtain ⟨cs, h1, h2⟩ := h.bad
    exact ⟨cs, h1.far (by show o.b ≠ o.g; omega) _, h2⟩
  · obtain ⟨cs, h1, h2⟩ := h.wear
    exact ⟨cs, h1.far (by show o.v ≠ o.g; omega) _, h2⟩
theorem RcAt.putt {w : World} {X : Nat → Prop} {o : Rb} {nb np sz : Nat} {dn : Bool} (h : RcAt w X o nb np sz dn) (z : Int) : RcAt (w.setCell ⟨o.g, 11, none⟩ (.int .i64 z)) X o nb np sz dn := by
  obtain ⟨n1, n2, n3, n4, n5, n6, n7, n8, n9, n10, n11, n12, n13, n14, n15⟩ := h.ne
  have hx : X o.g := h.inX _ (by simp [Rb.F])
  refine ⟨h.good, fun b hb => Nat.lt_of_lt_of_le (h.old b hb) (size_set ..), h.inX, h.ne, ?_, ?_, ?_, ?_, ?_, ?_⟩
  · obtain ⟨fv, fl, si, st, rd, h1, h2⟩ := h.chip
    exact ⟨fv, fl, si, z, rd, h1.put 11 _, h2.set hx _⟩
  · obtain ⟨cs, h1, h2, h3⟩ := h.pages
    exact ⟨cs, h1.far (by show o.p ≠ o.g; omega) _, h2, fun j hj => (h3 j hj).imp fun v hv => ⟨hv.1, hv.2.set hx _⟩⟩
  · obtain ⟨cs, h1, h2⟩ := h.next
    exact ⟨cs, h1.far (by show o.n ≠ o.g; omega) _, h2⟩
  · obtain ⟨cs, h1, h2⟩ := h.broken
    exact ⟨cs, h1.far (by show o.k ≠ o.g; omega) _, h2⟩
  · obtain ⟨cs, h1, h2⟩ := h.bad
    exact ⟨cs, h1.far (by show o.b ≠ o.g; omega) _, h2⟩
  · obtain ⟨cs, h1, h2⟩ := h.wear
    exact ⟨cs, h1.far (by show o.v ≠ o.g; omega) _, h2⟩
theorem RcAt.putr {w : World} {X : Nat → Prop} {o : Rb} {nb np sz : Nat} {dn : Bool} (h : RcAt w X o nb np sz dn) (z : Int) : RcAt (w.setCell ⟨o.g, 12, none⟩ (.int .i64 z)) X o nb np sz dn := by
  obtain ⟨n1, n2, n3, n4, n5, n6, n7, n8, n9, n10, n11, n12, n13, n14, n15⟩ := h.ne
  have hx : X o.g := h.inX _ (by simp [Rb.F])
  refine ⟨h.good, fun b hb => Nat.lt_of_lt_of_le (h.old b hb) (size_set ..), h.inX, h.ne, ?_, ?_, ?_, ?_, ?_, ?_⟩
  · obtain ⟨fv, fl, si, st, rd, h1, h2⟩ := h.chip
    exact ⟨fv, fl, si, st, z, h1.put 12 _, h2.set hx _⟩
  · obtain ⟨cs, h1, h2, h3⟩ := h.pages
    exact ⟨cs, h1.far (by show o.p ≠ o.g; omega) _, h2, fun j hj => (h3 j hj).imp fun v hv => ⟨hv.1, hv.2.set hx _⟩⟩
  · obtain ⟨cs, h1, h2⟩ := h.next
    exact ⟨cs, h1.far (by show o.n ≠ o.g; omega) _, h2⟩
  · obtain ⟨cs, h1, h2⟩ := h.broken
    exact ⟨cs, h1.far (by show o.k ≠ o.g; omega) _, h2⟩
  · obtain ⟨cs, h1, h2⟩ := h.bad
    exact ⟨cs, h1.far (by show o.b ≠ o.g; omega) _, h2⟩
  · obtain ⟨cs, h1, h2⟩ := h.wear
    exact ⟨cs, h1.far (by show o.v ≠ o.g; omega) _, h2⟩
theorem RcAt.putn {w : World} {X : Nat → Prop} {o : Rb} {nb np sz : Nat} {dn : Bool} (h : RcAt w X o nb np sz dn) (i : Nat) (z : Int) : RcAt (w.setCell ⟨o.n, i, none⟩ (.int .i64 z)) X o nb np sz dn := by
  obtain ⟨n1, n2, n3, n4, n5, n6, n7, n8, n9, n10, n11, n12, n13, n14, n15⟩ := h.ne
  have hx : X o.n := h.inX _ (by simp [Rb.F])
  refine ⟨h.good, fun b hb => Nat.lt_of_lt_of_le (h.old b hb) (size_set ..), h.inX, h.ne, ?_, ?_, ?_, ?_, ?_, ?_⟩
  · obtain ⟨fv, fl, si, st, rd, h1, h2⟩ := h.chip
    exact ⟨fv, fl, si, st, rd, h1.far (by show o.g ≠ o.n; omega) _, h2.set hx _⟩
  · obtain ⟨cs, h1, h2, h3⟩ := h.pages
    exact ⟨cs, h1.far (by show o.p ≠ o.n; omega) _, h2, fun j hj => (h3 j hj).imp fun v hv => ⟨hv.1, hv.2.set hx _⟩⟩
  · obtain ⟨cs, h1, h2⟩ := h.next
    exact ⟨_, h1.put _ _, row_put (Value.int .i64) h2 _ _⟩
  · obtain ⟨cs, h1, h2⟩ := h.broken
    exact ⟨cs, h1.far (by show o.k ≠ o.n; omega) _, h2⟩
  · obtain ⟨cs, h1, h2⟩ := h.bad
    exact ⟨cs, h1.far (by show o.b ≠ o.n; omega) _, h2⟩
  · obtain ⟨cs, h1, h2⟩ := h.wear
    exact ⟨cs, h1.far (by show o.v ≠ o.n; omega) _, h2⟩
theorem RcAt.putk {w : World} {X : Nat → Prop} {o : Rb} {nb np sz : Nat} {dn : Bool} (h : RcAt w X o nb np sz dn) (i : Nat) (z : Bool) : RcAt (w.setCell ⟨o.k, i, none⟩ (.bool z)) X o nb np sz dn := by
  obtain ⟨n1, n2, n3, n4, n5, n6, n7, n8, n9, n10, n11, n12, n13, n14, n15⟩ := h.ne
  have hx : X o.k := h.inX _ (by simp [Rb.F])
  refine ⟨h.good, fun b hb => Nat.lt_of_lt_of_le (h.old b hb) (size_set ..), h.inX, h.ne, ?_, ?_, ?_, ?_, ?_, ?_⟩
  · obtain ⟨fv, fl, si, st, rd, h1, h2⟩ := h.chip
    exact ⟨fv, fl, si, st, rd, h1.far (by show o.g ≠ o.k; omega) _, h2.set hx _⟩
  · obtain ⟨cs, h1, h2, h3⟩ := h.pages
    exact ⟨cs, h1.far (by show o.p ≠ o.k; omega) _, h2, fun j hj => (h3 j hj).imp fun v hv => ⟨hv.1, hv.2.set hx _⟩⟩
  · obtain ⟨cs, h1, h2⟩ := h.next
    exact ⟨cs, h1.far (by show o.n ≠ o.k; omega) _, h2⟩
  · obtain ⟨cs, h1, h2⟩ := h.broken
    exact ⟨_, h1.put _ _, row_put Value.bool h2 _ _⟩
  · obtain ⟨cs, h1, h2⟩ := h.bad
    exact ⟨cs, h1.far (by show o.b ≠ o.k; omega) _, h2⟩
  · obtain ⟨cs, h1, h2⟩ := h.wear
    exact ⟨cs, h1.far (by show o.v ≠ o.k; omega) _, h2⟩
theorem RcAt.putb {w : World} {X : Nat → Prop} {o : Rb} {nb np sz : Nat} {dn : Bool} (h : RcAt w X o nb np sz dn) (i : Nat) (z : Bool) : RcAt (w.setCell ⟨o.b, i, none⟩ (.bool z)) X o nb np sz dn := by
  obtain ⟨n1, n2, n3, n4, n5, n6, n7, n8, n9, n10, n11, n12, n13, n14, n15⟩ := h.ne
  have hx : X o.b := h.inX _ (by simp [Rb.F])
  refine ⟨h.good, fun b hb => Nat.lt_of_lt_of_le (h.old b hb) (size_set ..), h.inX, h.ne, ?_, ?_, ?_, ?_, ?_, ?_⟩
  · obtain ⟨fv, fl, si, st, rd, h1, h2⟩ := h.chip
    exact ⟨fv, fl, si, st, rd, h1.far (by show o.g ≠ o.b; omega) _, h2.set hx _⟩
  · obtain ⟨cs, h1, h2, h3⟩ := h.pages
    exact ⟨cs, h1.far (by show o.p ≠ o.b; omega) _, h2, fun j hj => (h3 j hj).imp fun v hv => ⟨hv.1, hv.2.set hx _⟩⟩
  · obtain ⟨cs, h1, h2⟩ := h.next
    exact ⟨cs, h1.far (by show o.n ≠ o.b; omega) _, h2⟩
  · obtain ⟨cs, h1, h2⟩ := h.broken
    exact ⟨cs, h1.far (by show o.k ≠ o.b; omega) _, h2⟩
  · obtain ⟨cs, h1, h2⟩ := h.bad
    exact ⟨_, h1.put _ _, row_put Value.bool h2 _ _⟩
  · obtain ⟨cs, h1, h2⟩ := h.wear
    exact ⟨cs, h1.far (by show o.v ≠ o.b; omega) _, h2⟩
theorem RcAt.putv {w : World} {X : Nat → Prop} {o : Rb} {nb np sz : Nat} {dn : Bool} (h : RcAt w X o nb np sz dn) (i : Nat) (z : Int) : RcAt (w.setCell ⟨o.v, i, none⟩ (.int .i64 z)) X o nb np sz dn := by
  obtain ⟨n1, n2, n3, n4, n5, n6, n7, n8, n9, n10, n11, n12, n13, n14, n15⟩ := h.ne
  have hx : X o.v := h.inX _ (by simp [Rb.F])
  refine ⟨h.good, fun b hb => Nat.lt_of_lt_of_le (h.old b hb) (size_set ..), h.inX, h.ne, ?_, ?_, ?_, ?_, ?_, ?_⟩
  · obtain ⟨fv, fl, si, st, rd, h1, h2⟩ := h.chip
    exact ⟨fv, fl, si, st, rd, h1.far (by show o.g ≠ o.v; omega) _, h2.set hx _⟩
  · obtain ⟨cs, h1, h2, h3⟩ := h.pages
    exact ⟨cs, h1.far (by show o.p ≠ o.v; omega) _, h2, fun j hj => (h3 j hj).imp fun v hv => ⟨hv.1, hv.2.set hx _⟩⟩
  · obtain ⟨cs, h1, h2⟩ := h.next
    exact ⟨cs, h1.far (by show o.n ≠ o.v; omega) _, h2⟩
  · obtain ⟨cs, h1, h2⟩ := h.broken
    exact ⟨cs, h1.far (by show o.k ≠ o.v; omega) _, h2⟩
  · obtain ⟨cs, h1, h2⟩ := h.bad
    exact ⟨cs, h1.far (by show o.b ≠ o.v; omega) _, h2⟩
  · obtain ⟨cs, h1, h2⟩ := h.wear
    exact ⟨_, h1.put _ _, row_put (Value.int .i64) h2 _ _⟩
theorem RcAt.putp {w : World} {X : Nat → Prop} {o : Rb} {nb np sz : Nat} {dn : Bool} (h : RcAt w X o nb np sz dn) (i : Nat) {u : Value} (hu : BvX w X u) : RcAt (w.setCell ⟨o.p, i, none⟩ (u)) X o nb np sz dn := by
  obtain ⟨n1, n2, n3, n4, n5, n6, n7, n8, n9, n10, n11, n12, n13, n14, n15⟩ := h.ne
  have hx : X o.p := h.inX _ (by simp [Rb.F])
  refine ⟨h.good, fun b hb => Nat.lt_of_lt_of_le (h.old b hb) (size_set ..), h.inX, h.ne, ?_, ?_, ?_, ?_, ?_, ?_⟩
  · obtain ⟨fv, fl, si, st, rd, h1, h2⟩ := h.chip
    exact ⟨fv, fl, si, st, rd, h1.far (by show o.g ≠ o.p; omega) _, h2.set hx _⟩
  · obtain ⟨cs, h1, h2, h3⟩ := h.pages
    have h4 := row_putP (BvX (w.setCell ⟨o.p, i, none⟩ (u)) X) ⟨h2, fun j hj => (h3 j hj).imp fun v hv => ⟨hv.1, hv.2.set hx _⟩⟩ i (u) (hu.set hx _)
    exact ⟨_, h1.put _ _, h4⟩
  · obtain ⟨cs, h1, h2⟩ := h.next
    exact ⟨cs, h1.far (by show o.n ≠ o.p; omega) _, h2⟩
  · obtain ⟨cs, h1, h2⟩ := h.broken
    exact ⟨cs, h1.far (by show o.k ≠ o.p; omega) _, h2⟩
  · obtain ⟨cs, h1, h2⟩ := h.bad
    exact ⟨cs, h1.far (by show o.b ≠ o.p; omega) _, h2⟩
  · obtain ⟨cs, h1, h2⟩ := h.wear
    exact ⟨cs, h1.far (by show o.v ≠ o.p; omega) _, h2⟩

/-- what is written into the chip's own blocks turns nothing else -/
theorem kp_set {w w' : World} {o : Rb} {i q : Nat} {u : Value} (hk : Kp o.F w w') (hq : o.F q) : Kp o.F w (w'.setCell ⟨q, i, none⟩ u) := hk.setCell (.inl hq) u

theorem placeF_ok {nb np : Nat} {dn : Bool} {k page : Int} (h : placeF nb np dn k page = 0) : dn = false ∧ 0 ≤ k ∧ k < nb ∧ 0 ≤ page ∧ page < np := by
  unfold placeF at h
  cases dn
  · rw [if_neg (by decide)] at h
    split at h
    · cases h
    · exact ⟨rfl, by omega, by omega, by omega, by omega⟩
  · cases h

/-- the cells of rows that calls read -/
theorem RcAt.row {w : World} {X : Nat → Prop} {o : Rb} {nb np sz : Nat} {dn : Bool} (h : RcAt w X o nb np sz dn) {k : Nat} (hk : k < nb) :
    (∃ z, w.cell? ⟨o.n, k, none⟩ = some (.int .i64 z)) ∧ (∃ z, w.cell? ⟨o.k, k, none⟩ = some (.bool z)) ∧ (∃ z, w.cell? ⟨o.b, k, none⟩ = some (.bool z)) ∧ (∃ z, w.cell? ⟨o.v, k, none⟩ = some (.int .i64 z)) := by
  obtain ⟨c1, h1, -, g1⟩ := h.next
  obtain ⟨c2, h2, -, g2⟩ := h.broken
  obtain ⟨c3, h3, -, g3⟩ := h.bad
  obtain ⟨c4, h4, -, g4⟩ := h.wear
  exact ⟨(g1 k hk).imp fun z hz => (h1.cell k).trans hz, (g2 k hk).imp fun z hz => (h2.cell k).trans hz, (g3 k hk).imp fun z hz => (h3.cell k).trans hz, (g4 k hk).imp fun z hz => (h4.cell k).trans hz⟩
theorem RcAt.froz {w : World} {X : Nat → Prop} {o : Rb} {nb np sz : Nat} {dn : Bool} (h : RcAt w X o nb np sz dn) (i : Nat) :
    w.frozen? ⟨o.g, i, none⟩ = false ∧ w.frozen? ⟨o.p, i, none⟩ = false ∧ w.frozen? ⟨o.n, i, none⟩ = false ∧ w.frozen? ⟨o.k, i, none⟩ = false ∧ w.frozen? ⟨o.b, i, none⟩ = false ∧ w.frozen? ⟨o.v, i, none⟩ = false := by
  obtain ⟨_, _, _, _, _, h0, -⟩ := h.chip
  obtain ⟨_, h5, -⟩ := h.pages
  obtain ⟨c1, h1, -⟩ := h.next
  obtain ⟨c2, h2, -⟩ := h.broken
  obtain ⟨c3, h3, -⟩ := h.bad
  obtain ⟨c4, h4, -⟩ := h.wear
  exact ⟨h0.frozen i, h5.frozen i, h1.frozen i, h2.frozen i, h3.frozen i, h4.frozen i⟩
theorem RcAt.rows {w : World} {X : Nat → Prop} {o : Rb} {nb np sz : Nat} {dn : Bool} (h : RcAt w X o nb np sz dn) :
    w.cell? ⟨o.g, 3, none⟩ = some (.slice (some ⟨o.p, 0, none⟩) (nb * np : Nat) (nb * np : Nat)) ∧ w.cell? ⟨o.g, 4, none⟩ = some (.slice (some ⟨o.n, 0, none⟩) nb nb) ∧ w.cell? ⟨o.g, 5, none⟩ = some (.slice (some ⟨o.k, 0, none⟩) nb nb) ∧ w.cell? ⟨o.g, 6, none⟩ = some (.slice (some ⟨o.b, 0, none⟩) nb nb) ∧ w.cell? ⟨o.g, 7, none⟩ = some (.slice (some ⟨o.v, 0, none⟩) nb nb) := by
  obtain ⟨fv, fl, si, st, rd, h1, -⟩ := h.chip
  exact ⟨h1.cell 3, h1.cell 4, h1.cell 5, h1.cell 6, h1.cell 7⟩

set_option maxRecDepth 100000 in
set_option maxHeartbeats 1000000 in
theorem rscript_any {w : World} {X : Nat → Prop} {o : Rb} {nb np sz : Nat} {dn : Bool} (h : RcAt w X o nb np sz dn) (a : Option Addr) (n c : Nat) (fl : List Fl) (hf : FlAt w X (.slice a n c) fl) :
    Calls Tryz.prog 25 #[.pointer (some ⟨o.g, 0, none⟩), .slice a n c] w fun e w' => (e = .returned (.int .i64 0) ∨ e = .returned (.int .i64 1)) ∧ RcAt w' X o nb np sz dn ∧ Kp o.F w w' := by
  have H := Lib.hid h
  obtain ⟨a', c', he, hm, hrow⟩ := hf
  injection he with e1 e2 e3
  subst e1 e2 e3
  have HF := Lib.hid (show FlAt w X (.slice a fl.length c) fl from ⟨a, c, rfl, hm, hrow⟩)
  obtain ⟨n, hn⟩ : ∃ n, fl.length = n := ⟨_, rfl⟩
  unfold maxLen at hm
  have HRow := Lib.hid hrow
  have HN := Lib.hid hn
  rw [hn] at hm HF ⊢
  have f8 := (h.froz 8).1
  have f9 := (h.froz 9).1
  have HR := Lib.hid ((h.putf HF.out).puts 0)
  have HK := Lib.hid (kp_set (i := 9) (u := .int .i64 0) (q := o.g) (kp_set (i := 8) (u := .slice a n c) (Kp.refl o.F w) (q := o.g) (.inl rfl)) (.inl rfl))
  obtain ⟨_, _, _, _, _, hb, -⟩ := h.chip
  have c8 := hb.cell 8
  have c9 := hb.cell 9
  simp [rcV] at c8 c9
  clear h hrow hn hb
  go_enter Tryz.func25, Tryz.ntmps25
  go_wp2_with fail
  go_loop [5] (fun i => ∃ k : Nat, k ≤ n ∧ i = .int .i64 k) (fun i => n - (intOf i).toNat)
  case atStart => exact ⟨0, by omega, rfl⟩
  case round =>
    obtain ⟨k, hk, rfl⟩ := hrel
    by_cases hlt : k < n
    · have kl : (k : Int) < (n : Int) := by omega
      have hkl : k < fl.length := by rw [HN.out]; exact hlt
      rcases HRow.out with h0 | ⟨b, off, rfl, -, hcs⟩
      · rw [h0] at hkl; simp at hkl
      obtain ⟨q0, -⟩ := hcs k hkl
      generalize fl[k] = f at q0
      clear hcs hkl
      by_cases hz : f.at' < 0
      · go_wp2
        go_ret
        exact ⟨.inr rfl, H.out, Kp.refl _ _⟩
      · go_wp2
        go_round
        case rel => exact ⟨k + 1, by omega, by go_num⟩
        case measure => simp [intOf]; omega
    · have kl : ¬ (k : Int) < (n : Int) := by omega
      go_wp2
      go_ret
      exact ⟨.inl rfl, HR.out, HK.out⟩

end Go.Proofs.YtjjggmopkfkpaaaGreat

/-
  The document's chip in memory: a page is read.
-/
namespace Go.Proofs.YtjjggmopkfkpaaaGreat
open Go.RowKit Crcm Go.ChangeShapes

theorem Kp.of_two {F : Nat → Prop} {a b c : World} (h : Kp F a b) (hb : Below b.heap.size b c) : Kp F a c := h.trans (Kp.of_below hb)

theorem RcAt.page {w : World} {X : Nat → Prop} {o : Rb} {nb np sz : Nat} {dn : Bool} (h : RcAt w X o nb np sz dn) {i : Nat} (hi : i < nb * np) : ∃ A l c, w.cell? ⟨o.p, i, none⟩ = some (.slice A l.length c) ∧ l.length ≤ c ∧ RwX w X A l := by
  obtain ⟨cs, h1, -, h2⟩ := h.pages
  obtain ⟨v, g1, A, l, c, rfl, g2, g3⟩ := h2 i hi
  exact ⟨A, l, c, (h1.cell i).trans g1, g2, g3⟩
theorem page_ix {nb np k page : Nat} (hk : k < nb) (hp : page < np) : k * np + page < nb * np := by
  have : (k + 1) * np ≤ nb * np := Nat.mul_le_mul_right _ hk
  rw [Nat.succ_mul] at this
  omega

/-- the numbers with which a page is found -/
theorem page_no {nb np n q : Nat} (hn : n < nb) (hq : q < np) (hnb : nb < 129) (hnp : np < 33) :
    ∃ P N I : Nat, n * np = P ∧ nb * np = N ∧ n * np + q = I ∧ IntKind.i64.wrap ((n : Int) * (np : Int)) = (P : Int) ∧ IntKind.i64.wrap ((P : Int) + (q : Int)) = (I : Int) ∧ I < N ∧ N ≤ 4224 ∧ (0 : Int) ≤ (I : Int) ∧ (I : Int) < (N : Int) := by
  have h1 := page_ix hn hq
  have h2 : nb * np ≤ 128 * 33 := Nat.mul_le_mul (by omega) (by omega)
  refine ⟨n * np, nb * np, n * np + q, rfl, rfl, rfl, ?_, ?_, h1, by omega, by omega, by omega⟩
  · have e : (n : Int) * (np : Int) = ((n * np : Nat) : Int) := by push_cast; rfl
    rw [e]
    exact IntWalk.i64_in _ ⟨by omega, by omega⟩
  · have e : ((n * np : Nat) : Int) + (q : Int) = ((n * np + q : Nat) : Int) := by push_cast; rfl
    rw [e]
    exact IntWalk.i64_in _ ⟨by omega, by omega⟩

end Go.Proofs.YtjjggmopkfkpaaaGreat

/-
  The document's chip in memory: a stroke is counted and its fault told.
-/
namespace Go.Proofs.YtjjggmopkfkpaaaGreat
open Go.RowKit Crcm Go.ChangeShapes

theorem BvX.widen {w w' : World} {X X' : Nat → Prop} {v : Value} (h : BvX w X v) (hb : Below w.heap.size w w') (hX : ∀ b, X' b → X b ∨ w.heap.size ≤ b) : BvX w' X' v := by
  obtain ⟨A, l, c, h1, h2, h3⟩ := h
  exact ⟨A, l, c, h1, h2, h3.widen hb hX⟩
theorem BvX.narrow {w : World} {X X' : Nat → Prop} {v : Value} (h : BvX w X' v) (hI : ∀ b, X b → X' b) : BvX w X v := by
  obtain ⟨A, l, c, h1, h2, h3⟩ := h
  exact ⟨A, l, c, h1, h2, h3.narrow hI⟩
theorem RcAt.widen {w w' : World} {X X' : Nat → Prop} {o : Rb} {nb np sz : Nat} {dn : Bool} (h : RcAt w X o nb np sz dn) (hb : Below w.heap.size w w') (hX : ∀ b, X' b → X b ∨ w.heap.size ≤ b) (hO : ∀ b, X' b → b < w'.heap.size) (hI : ∀ b, X b → X' b) : RcAt w' X' o nb np sz dn := by
  refine ⟨h.good, hO, fun b hb => hI _ (h.inX b hb), h.ne, ?_, ?_, ?_, ?_, ?_, ?_⟩
  · obtain ⟨fv, fl, si, st, rd, h1, h2⟩ := h.chip
    exact ⟨fv, fl, si, st, rd, h1.below hb h1.lt, h2.widen hb hX⟩
  · obtain ⟨cs, h1, h2, h3⟩ := h.pages
    exact ⟨cs, h1.below hb h1.lt, h2, fun i hi => (h3 i hi).imp fun v hv => ⟨hv.1, hv.2.widen hb hX⟩⟩
  · obtain ⟨cs, h1, h2⟩ := h.next
    exact ⟨cs, h1.below hb h1.lt, h2⟩
  · obtain ⟨cs, h1, h2⟩ := h.broken
    exact ⟨cs, h1.below hb h1.lt, h2⟩
  · obtain ⟨cs, h1, h2⟩ := h.bad
    exact ⟨cs, h1.below hb h1.lt, h2⟩
  · obtain ⟨cs, h1, h2⟩ := h.wear
    exact ⟨cs, h1.below hb h1.lt, h2⟩
theorem RcAt.narrow {w : World} {X X' : Nat → Prop} {o : Rb} {nb np sz : Nat} {dn : Bool} (h : RcAt w X' o nb np sz dn) (hI : ∀ b, X b → X' b) (hF : ∀ b, o.F b → X b) : RcAt w X o nb np sz dn := by
  refine ⟨h.good, fun b hb => h.old b (hI b hb), hF, h.ne, ?_, ?_, h.next, h.broken, h.bad, h.wear⟩
  · obtain ⟨fv, fl, si, st, rd, h1, h2⟩ := h.chip
    exact ⟨fv, fl, si, st, rd, h1, h2.narrow hI⟩
  · obtain ⟨cs, h1, h2, h3⟩ := h.pages
    exact ⟨cs, h1, h2, fun i hi => (h3 i hi).imp fun v hv => ⟨hv.1, hv.2.narrow hI⟩⟩

theorem kp_three {F : Nat → Prop} {a w : World} (h : Kp F a w) {g : Nat} (hg : F g ∨ a.heap.size ≤ g) (x y z : Value) : Kp F a (((w.setCell ⟨g, 0, none⟩ x).setCell ⟨g, 1, none⟩ y).setCell ⟨g, 2, none⟩ z) :=
  Kp.setCell (p := ⟨g, 2, none⟩) (Kp.setCell (p := ⟨g, 1, none⟩) (Kp.setCell (p := ⟨g, 0, none⟩) h hg x) hg y) hg z
/-- what a call of stroke comes to -/
def RStP (w : World) (X : Nat → Prop) (o : Rb) (nb np sz : Nat) (dn : Bool) (e : Ending) (w' : World) : Prop :=
  (∃ (f : Fl) (da : Option Addr) (dc : Nat), e = .returned (.agg #[.int .i64 f.at', .int .i64 f.kind, .slice da f.data.length dc]) ∧ RwX w' X da f.data ∧ f.data.length ≤ dc) ∧ RcAt w' X o nb np sz dn ∧ Kp o.F w w'
theorem rstroke_done {WF : World} {tm : Array Value} {g : Nat} {x y z : Value} {Q : Ending → World → Prop} (hb : Blk WF g 51 #[x, y, z]) (ht : tm[2]?.getD undef = .pointer (some ⟨g, 0, none⟩)) (hq : Q (.returned (.agg #[x, y, z])) WF) :
    bodyPost Tryz.prog Tryz.f70 Q Exit.ret ⟨tm, []⟩ WF := by
  have c0 : WF.cell? ⟨g, 0, none⟩ = some x := hb.cell 0
  have c1 : WF.cell? ⟨g, 1, none⟩ = some y := hb.cell 1
  have c2 : WF.cell? ⟨g, 2, none⟩ = some z := hb.cell 2
  exact bodyPost_ret (v := .agg #[x, y, z]) (by simp [results, Tryz.results70, go_sem, ht, c0, c1, c2]) rfl hq
theorem rstroke_last {w W2 WF : World} {X : Nat → Prop} {o : Rb} {nb np sz : Nat} {dn : Bool} {g : Nat} {f : Fl} {da : Option Addr} {dc : Nat} {tm : Array Value} (h2 : RcAt W2 (fun b => X b ∨ b = g) o nb np sz dn)
    (hX : ∀ b, X b → b < g) (hF : ∀ b, o.F b → X b) (hr : RwX W2 (fun b => X b ∨ b = g) da f.data) (hd : f.data.length ≤ dc)
    (ht : tm[2]?.getD undef = .pointer (some ⟨g, 0, none⟩)) (hb : Blk WF g 51 #[.int .i64 f.at', .int .i64 f.kind, .slice da f.data.length dc]) (hk : Kp (fun b => b = g) W2 WF) (hk2 : Kp o.F w WF) :
    bodyPost Tryz.prog Tryz.f70 (RStP w X o nb np sz dn) Exit.ret ⟨tm, []⟩ WF := by
  refine rstroke_done hb ht ⟨⟨f, da, dc, rfl, (hr.kp hk (fun _ e => .inr e)).narrow (fun _ h => .inl h), hd⟩, ?_, hk2⟩
  exact (h2.kp hk (fun _ e => .inr e) (fun b hb e => by have := hX b (hF b hb); omega)).narrow (fun _ h => .inl h) hF

set_option maxRecDepth 100000 in
set_option maxHeartbeats 1000000 in
theorem rstroke_any {w : World} {X : Nat → Prop} {o : Rb} {nb np sz : Nat} {dn : Bool} (h : RcAt w X o nb np sz dn) :
    Calls Tryz.prog 70 #[.pointer (some ⟨o.g, 0, none⟩)] w (RStP w X o nb np sz dn) := by
  have hXl : Hid (∀ b, X b → b < w.heap.size) := Lib.hid h.old
  have hFX : Hid (∀ b, o.F b → X b) := Lib.hid h.inX
  have hbl : o.g < w.heap.size := h.geo.2.2.2.2
  obtain ⟨fv0, fl0, si, st, rd, hb0, -⟩ := h.chip
  have c9 : w.cell? ⟨o.g, 9, none⟩ = some (.int .i64 si) := hb0.cell 9
  have c11 : w.cell? ⟨o.g, 11, none⟩ = some (.int .i64 st) := hb0.cell 11
  have f9 := hb0.frozen 9
  have f11 := hb0.frozen 11
  have hu := (h.puts (wrap64 (si + 1))).putt (wrap64 (st + 1))
  have K1 := kp_set (i := 11) (u := .int .i64 (wrap64 (st + 1))) (q := o.g) (kp_set (i := 9) (u := .int .i64 (wrap64 (si + 1))) (Kp.refl o.F w) (q := o.g) (.inl rfl)) (.inl rfl)
  have hz : ((w.setCell ⟨o.g, 9, none⟩ (.int .i64 (wrap64 (si + 1)))).setCell ⟨o.g, 11, none⟩ (.int .i64 (wrap64 (st + 1)))).heap.size = w.heap.size := by simp [World.setCell]
  have K2 := Lib.hid (K1.alloc (.cells #[.int .i64 0, .int .i64 0, .slice none 0 0] 51))
  have H2 := Lib.hid (hu.widen (X' := fun b => X b ∨ b = w.heap.size) ((Below.refl _ _).alloc (Nat.le_refl _) (.cells #[.int .i64 0, .int .i64 0, .slice none 0 0] 51)) (fun b hb => hb.elim .inl fun e => .inr (by omega)) (fun b hb => by
    have hz2 : ∀ ob, (((w.setCell ⟨o.g, 9, none⟩ (.int .i64 (wrap64 (si + 1)))).setCell ⟨o.g, 11, none⟩ (.int .i64 (wrap64 (st + 1)))).alloc ob).heap.size = w.heap.size + 1 := fun ob => by simp [World.setCell]
    rw [hz2]
    rcases hb with hb | hb
    · have := hXl.out b hb; omega
    · omega) (fun b hb => .inl hb))
  have B2 := Lib.hid (Blk.new ((w.setCell ⟨o.g, 9, none⟩ (.int .i64 (wrap64 (si + 1)))).setCell ⟨o.g, 11, none⟩ (.int .i64 (wrap64 (st + 1)))) 51 #[.int .i64 0, .int .i64 0, .slice none 0 0])
  rw [hz] at B2
  clear hu K1 hz
  clear h hb0
  go_enter Tryz.func70, Tryz.ntmps70
  go_wp2_with fail
  clear c9 c11 f9 f11
  generalize (((w.setCell ⟨o.g, 9, none⟩ (.int .i64 (wrap64 (si + 1)))).setCell ⟨o.g, 11, none⟩ (.int .i64 (wrap64 (st + 1)))).alloc (.cells #[.int .i64 0, .int .i64 0, .slice none 0 0] 51)) = W2 at H2 K2 B2 ⊢
  generalize hg : w.heap.size = g at H2 B2 hXl hbl ⊢
  have HWS := Lib.hid (show w.heap.size ≤ g by omega)
  clear hg
  obtain ⟨fv, fl, si2, st2, rd2, hbk, a, cap, rfl, hm, hrow⟩ := H2.out.chip
  have c8 : W2.cell? ⟨o.g, 8, none⟩ = some (.slice a fl.length cap) := hbk.cell 8
  obtain ⟨n, hn⟩ : ∃ n, fl.length = n := ⟨_, rfl⟩
  have hlen : n ≤ 9223372036854775807 := by have : fl.length ≤ maxLen := hm; unfold maxLen at this; omega
  have HRow := Lib.hid hrow
  have HN := Lib.hid hn
  rw [hn] at c8
  clear hbk hm hrow hn
  have x0 : W2.cell? ⟨g, 0, none⟩ = some (.int .i64 0) := B2.out.cell 0
  have x1 : W2.cell? ⟨g, 1, none⟩ = some (.int .i64 0) := B2.out.cell 1
  have x2 : W2.cell? ⟨g, 2, none⟩ = some (.slice none 0 0) := B2.out.cell 2
  have z0 := fun i => B2.out.frozen i
  go_loop [4] (fun i => ∃ k : Nat, k ≤ n ∧ i = .int .i64 k) (fun i => n - (intOf i).toNat)
  case atStart => exact ⟨0, by omega, rfl⟩
  case round =>
    obtain ⟨k, hk, rfl⟩ := hrel
    by_cases hlt : k < n
    · have kl : (k : Int) < (n : Int) := by omega
      have hkl : k < fl.length := by rw [HN.out]; exact hlt
      rcases HRow.out with h0 | ⟨b, off, rfl, -, hcs⟩
      · rw [h0] at hkl; simp at hkl
      obtain ⟨q0, q1, da, dc, q2, hr, hd⟩ := hcs k hkl
      have HDr := Lib.hid hr
      have HDl := Lib.hid hd
      generalize fl[k] = f at q0 q1 q2 HDr HDl
      clear hcs hkl hr hd
      by_cases hz : f.at' = si
      · have t0 : (f.at' == si) = true := beq_iff_eq.2 hz
        clear hz
        go_wp2
        refine rstroke_last H2.out hXl.out hFX.out HDr.out HDl.out rfl (Blk.put3 B2.out) ?_ ?_
        · exact kp_three (Kp.refl (fun b => b = g) W2) (.inl rfl) _ _ _
        · exact kp_three K2.out (.inr HWS.out) _ _ _
      · have t0 : (f.at' == si) = false := beq_eq_false_iff_ne.2 hz
        clear hz HDr HDl
        go_wp2
        go_round
        case rel => exact ⟨k + 1, by omega, by go_num⟩
        case measure => simp [intOf]; omega
    · have kl : ¬ (k : Int) < (n : Int) := by omega
      go_wp2
      refine rstroke_last (f := ⟨0, 0, []⟩) H2.out hXl.out hFX.out (RwX.nil (a := none)) (Nat.le_refl 0) rfl (Blk.put3 B2.out) ?_ ?_
      · exact kp_three (Kp.refl (fun b => b = g) W2) (.inl rfl) _ _ _
      · exact kp_three K2.out (.inr HWS.out) _ _ _

end Go.Proofs.YtjjggmopkfkpaaaGreat

/-
  The document's chip: its faults set, with the error told. Nothing of one statement alone stands here.
-/
namespace Go.Proofs.YtjjggmopkfkpaaaGreat
open Go.RowKit Crcm Go.ChangeShapes

set_option maxRecDepth 100000 in
set_option maxHeartbeats 1000000 in
theorem rscript_ex {w : World} {X : Nat → Prop} {o : Rb} {nb np sz : Nat} {dn : Bool} (h : RcAt w X o nb np sz dn) (a : Option Addr) (n c : Nat) (fl : List Fl) (hf : FlAt w X (.slice a n c) fl) :
    Calls Tryz.prog 25 #[.pointer (some ⟨o.g, 0, none⟩), .slice a n c] w fun e w' => ((e = .returned (.int .i64 0) ∧ ∀ f ∈ fl, 0 ≤ f.at') ∨ (e = .returned (.int .i64 1) ∧ ∃ f ∈ fl, f.at' < 0)) ∧ RcAt w' X o nb np sz dn ∧ Kp o.F w w' := by
  have H := Lib.hid h
  obtain ⟨a', c', he, hm, hrow⟩ := hf
  injection he with e1 e2 e3
  subst e1 e2 e3
  have HF := Lib.hid (show FlAt w X (.slice a fl.length c) fl from ⟨a, c, rfl, hm, hrow⟩)
  obtain ⟨n, hn⟩ : ∃ n, fl.length = n := ⟨_, rfl⟩
  unfold maxLen at hm
  have HRow := Lib.hid hrow
  have HN := Lib.hid hn
  rw [hn] at hm HF ⊢
  have f8 := (h.froz 8).1
  have f9 := (h.froz 9).1
  have HR := Lib.hid ((h.putf HF.out).puts 0)
  have HK := Lib.hid (kp_set (i := 9) (u := .int .i64 0) (q := o.g) (kp_set (i := 8) (u := .slice a n c) (Kp.refl o.F w) (q := o.g) (.inl rfl)) (.inl rfl))
  obtain ⟨_, _, _, _, _, hb, -⟩ := h.chip
  have c8 := hb.cell 8
  have c9 := hb.cell 9
  simp [rcV] at c8 c9
  clear h hrow hn hb
  go_enter Tryz.func25, Tryz.ntmps25
  go_wp2_with fail
  go_loop [5] (fun i => ∃ k : Nat, k ≤ n ∧ i = .int .i64 k ∧ Hid (∀ j (hj : j < fl.length), j < k → 0 ≤ fl[j].at')) (fun i => n - (intOf i).toNat)
  case atStart => exact ⟨0, by omega, rfl, Lib.hid (fun j _ h => absurd h (Nat.not_lt_zero _))⟩
  case round =>
    obtain ⟨k, hk, rfl, hA⟩ := hrel
    by_cases hlt : k < n
    · have kl : (k : Int) < (n : Int) := by omega
      have hkl : k < fl.length := by rw [HN.out]; exact hlt
      rcases HRow.out with h0 | ⟨b, off, rfl, -, hcs⟩
      · rw [h0] at hkl; simp at hkl
      obtain ⟨q0, -⟩ := hcs k hkl
      have HNx : Hid (0 ≤ fl[k].at' → ∀ j (hj : j < fl.length), j < k + 1 → 0 ≤ fl[j].at') := Lib.hid fun h j hj hk => by
        by_cases e : j = k
        · subst e; exact h
        · exact hA.out j hj (by omega)
      have HMm : Hid (fl[k] ∈ fl) := Lib.hid (List.getElem_mem hkl)
      generalize fl[k] = f at q0 HNx HMm
      clear hcs hkl
      by_cases hz : f.at' < 0
      · go_wp2
        go_ret
        exact ⟨.inr ⟨rfl, f, HMm.out, hz⟩, H.out, Kp.refl _ _⟩
      · have HN2 := Lib.hid (HNx.out (by omega))
        clear HNx HMm
        go_wp2
        go_round
        case rel => exact ⟨k + 1, by omega, by go_num, HN2⟩
        case measure => simp [intOf]; omega
    · have kl : ¬ (k : Int) < (n : Int) := by omega
      go_wp2
      go_ret
      refine ⟨.inl ⟨rfl, fun f hf => ?_⟩, HR.out, HK.out⟩
      obtain ⟨j, hj, rfl⟩ := List.getElem_of_mem hf
      exact hA.out j hj (by have := HN.out; omega)

end Go.Proofs.YtjjggmopkfkpaaaGreat
