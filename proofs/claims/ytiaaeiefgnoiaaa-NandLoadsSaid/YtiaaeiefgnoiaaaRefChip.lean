/-
  The document's chip in memory, and its small calls: what a block and a page answer, a page's bytes filled up.
-/
import Derived.Test.YtiaaeiefgnoiaaaNandOps
import Derived.Test.YtiaaeiefgnoiaaaNandMem
import Derived.Maps.AppendAt
import Derived.Lib.Bytes
namespace Go.Proofs.Ytiaaeiefgnoiaaa
open Go.RowKit Crcm Go.ChangeShapes

/-- the numbers of the blocks of memory that are the document's chip's own: itself, its pages, next pages, broken off, bad, wear -/
structure Rb where
  g : Nat
  p : Nat
  n : Nat
  k : Nat
  b : Nat
  v : Nat
def Rb.F (o : Rb) (m : Nat) : Prop := m = o.g ∨ m = o.p ∨ m = o.n ∨ m = o.k ∨ m = o.b ∨ m = o.v
/-- a slice value that reads as bytes outside what anyone may write -/
def BvX (w : World) (X : Nat → Prop) (v : Value) : Prop := ∃ A l c, v = .slice A l.length c ∧ l.length ≤ c ∧ RwX w X A l
theorem BvX.kp {F X : Nat → Prop} {w w' : World} {v : Value} (h : BvX w X v) (hk : Kp F w w') (hf : ∀ b, F b → X b) : BvX w' X v := by
  obtain ⟨A, l, c, h1, h2, h3⟩ := h
  exact ⟨A, l, c, h1, h2, h3.kp hk hf⟩
/-- what stands at the chip's own block -/
def rcV (o : Rb) (nb np sz : Nat) (fv : Value) (si : Int) (dn : Bool) (st rd : Int) : Array Value :=
  #[.int .i64 nb, .int .i64 np, .int .i64 sz, .slice (some ⟨o.p, 0, none⟩) (nb * np : Nat) (nb * np : Nat), .slice (some ⟨o.n, 0, none⟩) nb nb, .slice (some ⟨o.k, 0, none⟩) nb nb, .slice (some ⟨o.b, 0, none⟩) nb nb, .slice (some ⟨o.v, 0, none⟩) nb nb, fv, .int .i64 si, .bool dn, .int .i64 st, .int .i64 rd]
/-- the document's chip in memory; X: what may be written by anyone -/
structure RcAt (w : World) (X : Nat → Prop) (o : Rb) (nb np sz : Nat) (dn : Bool) : Prop where
  good : Gd nb np sz
  old : ∀ b, X b → b < w.heap.size
  inX : ∀ b, o.F b → X b
  ne : o.g ≠ o.p ∧ o.g ≠ o.n ∧ o.g ≠ o.k ∧ o.g ≠ o.b ∧ o.g ≠ o.v ∧ o.p ≠ o.n ∧ o.p ≠ o.k ∧ o.p ≠ o.b ∧ o.p ≠ o.v ∧ o.n ≠ o.k ∧ o.n ≠ o.b ∧ o.n ≠ o.v ∧ o.k ≠ o.b ∧ o.k ≠ o.v ∧ o.b ≠ o.v
  chip : ∃ fv fl si st rd, Blk w o.g 78 (rcV o nb np sz fv si dn st rd) ∧ FlAt w X fv fl
  pages : ∃ cs, Blk w o.p 27 cs ∧ cs.size = nb * np ∧ ∀ i, i < nb * np → ∃ v, cs[i]? = some v ∧ BvX w X v
  next : ∃ cs, Blk w o.n 3 cs ∧ cs.size = nb ∧ ∀ i, i < nb → ∃ z, cs[i]? = some (.int .i64 z)
  broken : ∃ cs, Blk w o.k 4 cs ∧ cs.size = nb ∧ ∀ i, i < nb → ∃ z, cs[i]? = some (.bool z)
  bad : ∃ cs, Blk w o.b 4 cs ∧ cs.size = nb ∧ ∀ i, i < nb → ∃ z, cs[i]? = some (.bool z)
  wear : ∃ cs, Blk w o.v 3 cs ∧ cs.size = nb ∧ ∀ i, i < nb → ∃ z, cs[i]? = some (.int .i64 z)

theorem RcAt.kp {F X : Nat → Prop} {w w' : World} {o : Rb} {nb np sz : Nat} {dn : Bool} (h : RcAt w X o nb np sz dn) (hk : Kp F w w') (hf : ∀ b, F b → X b) (hd : ∀ b, o.F b → ¬ F b) : RcAt w' X o nb np sz dn := by
  refine ⟨h.good, fun b hb => Nat.lt_of_lt_of_le (h.old b hb) hk.size, h.inX, h.ne, ?_, ?_, ?_, ?_, ?_, ?_⟩
  · obtain ⟨fv, fl, si, st, rd, h1, h2⟩ := h.chip
    exact ⟨fv, fl, si, st, rd, h1.kp hk (hd _ (.inl rfl)), h2.kp hk hf⟩
  · obtain ⟨cs, h1, h2, h3⟩ := h.pages
    refine ⟨cs, h1.kp hk (hd _ (.inr (.inl rfl))), h2, fun i hi => ?_⟩
    obtain ⟨v, g1, g2⟩ := h3 i hi
    exact ⟨v, g1, g2.kp hk hf⟩
  · obtain ⟨cs, h1, h2⟩ := h.next
    exact ⟨cs, h1.kp hk (hd _ (.inr (.inr (.inl rfl)))), h2⟩
  · obtain ⟨cs, h1, h2⟩ := h.broken
    exact ⟨cs, h1.kp hk (hd _ (.inr (.inr (.inr (.inl rfl))))), h2⟩
  · obtain ⟨cs, h1, h2⟩ := h.bad
    exact ⟨cs, h1.kp hk (hd _ (.inr (.inr (.inr (.inr (.inl rfl)))))), h2⟩
  · obtain ⟨cs, h1, h2⟩ := h.wear
    exact ⟨cs, h1.kp hk (hd _ (.inr (.inr (.inr (.inr (.inr rfl)))))), h2⟩
theorem RcAt.below {X : Nat → Prop} {w w' : World} {o : Rb} {nb np sz : Nat} {dn : Bool} (h : RcAt w X o nb np sz dn) (hb : Below w.heap.size w w') : RcAt w' X o nb np sz dn :=
  h.kp (F := fun _ => False) (Kp.of_below hb) (fun _ g => g.elim) (fun _ _ g => g)

/-- the cells that the small calls read -/
theorem RcAt.geo {w : World} {X : Nat → Prop} {o : Rb} {nb np sz : Nat} {dn : Bool} (h : RcAt w X o nb np sz dn) :
    w.cell? ⟨o.g, 0, none⟩ = some (.int .i64 nb) ∧ w.cell? ⟨o.g, 1, none⟩ = some (.int .i64 np) ∧ w.cell? ⟨o.g, 2, none⟩ = some (.int .i64 sz) ∧ w.cell? ⟨o.g, 10, none⟩ = some (.bool dn) ∧ o.g < w.heap.size := by
  obtain ⟨fv, fl, si, st, rd, h1, -⟩ := h.chip
  exact ⟨h1.cell 0, h1.cell 1, h1.cell 2, h1.cell 10, h1.lt⟩

/-- what a block and a page answer -/
def placeF (nb np : Nat) (dn : Bool) (k page : Int) : Int := if dn then 4 else if k < 0 ∨ (nb : Int) ≤ k ∨ page < 0 ∨ (np : Int) ≤ page then 12 else 0

set_option maxRecDepth 100000 in
set_option maxHeartbeats 1000000 in
theorem rplace_any {w : World} {X : Nat → Prop} {o : Rb} {nb np sz : Nat} {dn : Bool} (h : RcAt w X o nb np sz dn) (k page : Int) :
    Calls Try.prog 60 #[.pointer (some ⟨o.g, 0, none⟩), .int .i64 k, .int .i64 page] w fun e w' => e = .returned (.int .i64 (placeF nb np dn k page)) ∧ w = w' := by
  obtain ⟨c0, c1, -, c10, -⟩ := h.geo
  clear h
  unfold placeF
  cases dn
  · by_cases h1 : k < 0
    · go_enter Try.func60, Try.ntmps60
      go_wp2
      go_ret
      exact ⟨rfl, rfl⟩
    · by_cases h2 : (nb : Int) ≤ k
      · go_enter Try.func60, Try.ntmps60
        go_wp2
        go_ret
        exact ⟨rfl, rfl⟩
      · by_cases h3 : page < 0
        · go_enter Try.func60, Try.ntmps60
          go_wp2
          go_ret
          exact ⟨rfl, rfl⟩
        · by_cases h4 : (np : Int) ≤ page
          · go_enter Try.func60, Try.ntmps60
            go_wp2
            go_ret
            exact ⟨rfl, rfl⟩
          · go_enter Try.func60, Try.ntmps60
            go_wp2
            go_ret
            exact ⟨rfl, rfl⟩
  · go_enter Try.func60, Try.ntmps60
    go_wp2
    go_ret
    exact ⟨rfl, rfl⟩

/-- bytes, and bytes 255 behind -/
def flF (l : List Int) (k : Nat) : List Int := (List.range k).map fun j => l.getD j 255
theorem flF_len (l : List Int) (k : Nat) : (flF l k).length = k := by simp [flF]
theorem flF_succ (l : List Int) (k : Nat) : flF l (k + 1) = flF l k ++ [l.getD k 255] := by simp [flF, List.range_succ]
theorem flF_u8 {l : List Int} (h : ∀ x ∈ l, U8 x) (k : Nat) : ∀ x ∈ flF l k, U8 x := fun x hx => by
  simp only [flF, List.mem_map] at hx
  obtain ⟨j, -, rfl⟩ := hx
  rw [List.getD_eq_getElem?_getD]
  rcases hj : l[j]? with _ | y
  · simp [U8]
  · exact h y (List.mem_of_getElem? hj)

set_option maxRecDepth 100000 in
set_option maxHeartbeats 1000000 in
theorem rfull_any {w : World} {X : Nat → Prop} {o : Rb} {nb np sz : Nat} {dn : Bool} (h : RcAt w X o nb np sz dn) (A : Option Addr) (m c : Nat) (l : List Int) (hr : Rw w A l) (hl : l.length = m) :
    Calls Try.prog 62 #[.pointer (some ⟨o.g, 0, none⟩), .slice A m c] w fun e w' => (∃ g c', e = .returned (.slice (some ⟨g, 0, none⟩) (sz + 32 : Nat) c') ∧ sz + 32 ≤ c' ∧ w.heap.size ≤ g ∧ Rw w' (some ⟨g, 0, none⟩) (flF l (sz + 32))) ∧ Below w.heap.size w w' := by
  obtain ⟨i0, hi, hz0, hz1, hz2⟩ := info_parts Try.info8
  have hsz : sz ≤ 512 := by have := h.good; unfold Gd at this; omega
  have HG := Lib.hid h.geo
  have HR := Lib.hid hr
  have HL := Lib.hid hl
  have hm : m ≤ 2 ^ 63 - 1 := by have := hr.2.1; unfold maxLen at this; omega
  clear h hr hl
  go_enter Try.func62, Try.ntmps62
  go_wp2_with fail
  go_loopw [5, 6] (fun v i wr => ∃ k : Nat, k ≤ sz + 32 ∧ i = .int .i64 k ∧ Hid (wr.ownsRow w.heap.size 5 1 v k ((flF l k).map (Value.int .u8))) ∧ Hid (Below w.heap.size w wr)) (fun _ i _ => sz + 32 - (intOf i).toNat)
  case atStart => exact ⟨0, by omega, rfl, Lib.hid (World.ownsRow_nil _ _ _ _), Lib.hid (Below.refl _ _)⟩
  case round =>
    obtain ⟨k, hk, rfl, hO, hB⟩ := hrel
    have hs := hB.out.size
    have c2 := (hB.out.cell (p := ⟨o.g, 2, none⟩) HG.out.2.2.2.2).trans HG.out.2.2.1
    by_cases hlt : k < sz + 32
    · have kl : (k : Int) < (sz : Int) + 32 := by omega
      have hown := hO.out
      by_cases hkm : k < m
      · have km : (k : Int) < (m : Int) := by omega
        rcases HR.out.2.2 with h0 | ⟨b, off, rfl, hc⟩
        · rw [h0] at HL; exact absurd HL.out (by simp; omega)
        · have h1 := hc k (by rw [HL.out]; exact hkm)
          have c7 := (hB.out.cell (block_lt_of_cell h1)).trans h1
          have hyy : l.getD k 0 = l.getD k 255 := by
            have : k < l.length := by rw [HL.out]; exact hkm
            simp [List.getD_eq_getElem?_getD, this]
          rw [hyy] at c7
          have HS := Lib.hid (flF_succ l k)
          generalize hy : l.getD k 255 = y at c7 HS
          clear hc h1 hyy hy hO
          go_wp2_with (at_builtin; refine wpList_append_own _ rfl _ _ 27 rfl w.heap.size 5 i0 (.int .u8 0) 1 1 Try.underlying27 hi hz0 hz1 hz2 rfl (by decide) _ _ _ rfl (hown.alloc _) ⟨wr.heap.size, 0, none⟩ 1 1 [.int .u8 y] rfl rfl ?c1 ?c2 ?c3 ?c4 ?c5 ?_)
          case c1 => exact cell_one_new _ _ _
          case c2 => intro u hu; simp at hu; subst hu; rfl
          case c3 => unfold maxLen; omega
          case c4 => omega
          case c5 => simp; omega
          intro v' w1 hown1 hgrow _
          have hb1 := Lib.hid ((hB.out.alloc (by omega) _).grown hgrow (by simp; omega) (fun g hg => (hown.lt g hg).1))
          have hH : Hid (w1.ownsRow w.heap.size 5 1 v' (k + 1) ((flF l (k + 1)).map (Value.int .u8))) := Lib.hid (by rw [HS.out]; simpa using hown1)
          clear hown1 hgrow hown c2 c7
          go_wp2
          go_roundw
          case rel => exact ⟨k + 1, by omega, by go_num, hH, hb1⟩
          case measure => simp [intOf]; omega
      · have km : ¬ (k : Int) < (m : Int) := by omega
        have hy : l.getD k 255 = 255 := by
          have : ¬ k < l.length := by rw [HL.out]; exact hkm
          simp [List.getD_eq_getElem?_getD, this]
        have HS := Lib.hid (flF_succ l k)
        rw [hy] at HS
        clear hy hO
        go_wp2_with (at_builtin; refine wpList_append_own _ rfl _ _ 27 rfl w.heap.size 5 i0 (.int .u8 0) 1 1 Try.underlying27 hi hz0 hz1 hz2 rfl (by decide) _ _ _ rfl (hown.alloc _) ⟨wr.heap.size, 0, none⟩ 1 1 [.int .u8 255] rfl rfl ?c1 ?c2 ?c3 ?c4 ?c5 ?_)
        case c2 => rfl
        case c3 => unfold maxLen; omega
        case c4 => omega
        case c5 => omega
        intro v' w1 hown1 hgrow _
        have hb1 := Lib.hid ((hB.out.alloc (by omega) _).grown hgrow (by simp; omega) (fun g hg => (hown.lt g hg).1))
        have hH : Hid (w1.ownsRow w.heap.size 5 1 v' (k + 1) ((flF l (k + 1)).map (Value.int .u8))) := Lib.hid (by rw [HS.out]; simpa using hown1)
        clear hown1 hgrow hown c2
        go_wp2
        go_roundw
        case rel => exact ⟨k + 1, by omega, by go_num, hH, hb1⟩
        case measure => simp [intOf]; omega
    · have hkn : k = sz + 32 := by omega
      have kl : ¬ (k : Int) < (sz : Int) + 32 := by omega
      obtain ⟨a2, cap2, rfl, hrw, hlen, hcap⟩ := Rw.of_own hO.out (flF_u8 HR.out.1 k)
      have HW := Lib.hid hrw
      have HC := Lib.hid hcap
      have HK := Lib.hid hkn
      clear hrw hlen hcap hkn
      go_wp2
      go_ret
      refine ⟨?_, hB.out⟩
      have := HK.out
      subst this
      rcases hO.out.2 with ⟨h0, hn⟩ | ⟨g, cap, cur, h0, hg, _⟩
      · omega
      · injection h0 with e1 e2 e3
        subst e1 e3
        exact ⟨g, cap2, rfl, HC.out, hg, HW.out⟩

end Go.Proofs.Ytiaaeiefgnoiaaa
