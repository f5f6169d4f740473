/-
  A row of blocks mended: the program's.
-/
import Derived.Test.YtdcpbbfaakddaaaEccChunk
import Derived.Test.YtdcpbbfaakddaaaEccAllM
import Derived.Test.YtdcpbbfaakddaaaEccRowQ
import Derived.RangeFuncNested
import Derived.RangeFuncWrites
import Derived.BigQuiet
import Derived.Deep.QuietTactic
namespace Go.Proofs.Ytdcpbbfaakddaaa
open Go.RowKit Go.Shelf Crcm Tagm Eccm Go.ChangeShapes

/-- a bit of a block that lies in a row of the call's own -/
theorem turn_at (g o L cc m c' k : Nat) (l : List Int) (w : World) (base : Nat) (hown : w.ownsRow base 5 1 (.slice (some ⟨g, 0, none⟩) L cc) L (l.map (Value.int .u8))) (hU : ∀ m ∈ l, U8 m) (hk : k < 8 * m) (hm : o + m ≤ L) (hn : m ≤ 4096) :
    Calls Try.prog 29 #[.slice (some ⟨g, o, none⟩) m c', .int .i64 k] w fun e w' => e = .returned (.tuple #[]) ∧ ∃ u, w' = (w.setCell ⟨g, o + k / 8, none⟩ u).drew ∧ w'.ownsRow base 5 1 (.slice (some ⟨g, 0, none⟩) L cc) L ((tn l (8 * o + k)).map (Value.int .u8)) := by
  have hln : l.length = L := by simpa using hown.1
  have hin : k / 8 < m := by omega
  have hcell : w.cell? ⟨g, o + k / 8, none⟩ = some (.int .u8 (l.getD (o + k / 8) 0)) := by
    rw [hown.cellAt (o + k / 8) (by omega), List.getElem?_map]
    simp [hln, show o + k / 8 < L by omega]
  have hf := hown.frozenAt (o + k / 8)
  have hst := hown.stored (o + k / 8) (.int .u8 ((l.getD (o + k / 8) 0).toNat ^^^ 2 ^ (k % 8) : Nat))
  have hB : U8 (l.getD (o + k / 8) 0) := by rw [List.getD_eq_getElem?_getD, List.getElem?_eq_getElem (by omega)]; exact hU _ (List.getElem_mem (by omega))
  have e0 : (l.map (Value.int .u8)).set (o + k / 8) (.int .u8 ((l.getD (o + k / 8) 0).toNat ^^^ 2 ^ (k % 8) : Nat)) = (tn l (8 * o + k)).map (Value.int .u8) := by
    unfold tn; rw [List.map_set, show (8 * o + k) / 8 = o + k / 8 by omega, show (8 * o + k) % 8 = k % 8 by omega]
  rw [e0] at hst
  have HST := Lib.hid hst.1
  generalize l.getD (o + k / 8) 0 = B at hcell hB HST
  have hx : bits .xor .u8 B (2 ^ (k % 8) % 256) = ((B.toNat ^^^ 2 ^ (k % 8) : Nat) : Int) := by
    obtain ⟨h0, h1⟩ := hB
    have hp : 2 ^ (k % 8) < 256 := (Nat.pow_lt_pow_iff_right (by decide)).2 (by omega : k % 8 < 8)
    obtain ⟨M, rfl⟩ : ∃ M : Nat, B = M := ⟨B.toNat, by omega⟩
    have hp2 : (2 : Int) ^ (k % 8) = ((2 ^ (k % 8) : Nat) : Int) := by simp
    rw [hp2]
    generalize 2 ^ (k % 8) = p at hp ⊢
    rw [show ((p : Int) % 256) = (p : Int) by omega, u8_xor_nat _ _ (by omega) hp, Int.toNat_natCast]
  have HX := Lib.hid hx
  clear hst e0 hx hB hU hown hln
  go_enter Try.func29, Try.ntmps29
  go_region
  rw [HX.out]
  go_end0
  exact ⟨rfl, _, rfl, own_below HST.out (Below.drew (Below.refl _ _))⟩

def ov4 (w : World) (g : Nat) (a b c d : Int) : World := (((w.setCell ⟨g, 0, none⟩ (.int .i64 a)).setCell ⟨g, 1, none⟩ (.int .i64 b)).setCell ⟨g, 2, none⟩ (.int .i64 c)).setCell ⟨g, 3, none⟩ (.int .i64 d)
theorem ov4_blk {w : World} {g : Nat} {t : TypeId} {x0 x1 x2 x3 : Value} {a b c d : Int} (h : Blk w g t #[x0, x1, x2, x3]) : Blk (ov4 w g a b c d) g t #[.int .i64 a, .int .i64 b, .int .i64 c, .int .i64 d] := by
  have := (((h.put 0 (.int .i64 a)).put 1 (.int .i64 b)).put 2 (.int .i64 c)).put 3 (.int .i64 d)
  simpa [ov4] using this
theorem ov4_below {w0 w : World} {B g : Nat} {a b c d : Int} (h : Below B w0 w) (hg : B ≤ g) : Below B w0 (ov4 w g a b c d) := by
  unfold ov4
  exact (((h.setCell (p := ⟨g, 0, none⟩) hg _).setCell (p := ⟨g, 1, none⟩) hg _).setCell (p := ⟨g, 2, none⟩) hg _).setCell (p := ⟨g, 3, none⟩) hg _
theorem blk_drewN {w : World} {g : Nat} {t : TypeId} {cs : Array Value} (h : Blk w g t cs) (q : Nat) : Blk (w.drewN q) g t cs := h
theorem below_drewN {w0 w : World} {B : Nat} (h : Below B w0 w) (q : Nat) : Below B w0 (w.drewN q) := ⟨h.os, h.tape, h.output, h.size, h.block⟩

set_option maxRecDepth 100000 in
set_option maxHeartbeats 1000000 in
theorem mall_no (a d : Option Addr) (L c q s : Nat) (N : Int) (w : World) (HR : Hid (∀ w, Calls Try.prog 32 #[.slice a L c, .int .i64 N] w fun e w' => e = .returned (.bool false) ∧ w = w')) :
    Calls Try.prog 18 #[.slice a L c, .int .i64 N, .slice d q s] w fun e w' => e = .returned (.tuple #[.slice none 0 0, .agg #[.int .i64 0, .int .i64 0, .int .i64 0, .int .i64 0], .int .i64 1]) ∧ Below w.heap.size w w' := by
  have HRq : ∀ w, Calls Try.prog 32 #[.slice a L c, .int .i64 N] w fun e w' => e = .returned (.bool false) ∧ w' = w := fun w => (HR.out w).mono fun _ _ h => ⟨h.1, h.2.symm⟩
  have hb0 : Below w.heap.size w ((w.alloc (.cells #[.slice d q s] 22)).alloc (.cells #[.int .i64 0, .int .i64 0, .int .i64 0, .int .i64 0] 36)) := ((Below.refl _ _).alloc (Nat.le_refl _) _).alloc (by simp) _
  have hk0 := Blk.new (w.alloc (.cells #[.slice d q s] 22)) 36 #[.int .i64 0, .int .i64 0, .int .i64 0, .int .i64 0]
  rw [World.size_alloc] at hk0
  have HB0 := Lib.hid hb0
  have HK0 := Lib.hid hk0
  clear hb0 hk0
  go_enter Try.func18, Try.ntmps18
  go_wp2_with fail
  go_quiet (first | exact Calls.quiet_of_same (HRq _) | fail)
  have hk := ov4_blk (a := 0) (b := 0) (c := 0) (d := 0) (blk_drewN HK0.out nq)
  have hb := ov4_below (a := 0) (b := 0) (c := 0) (d := 0) (below_drewN HB0.out nq) (show w.heap.size ≤ w.heap.size + 1 by omega)
  have c0 := hk.cell 0
  have c1 := hk.cell 1
  have c2 := hk.cell 2
  have c3 := hk.cell 3
  have HB := Lib.hid hb
  clear hk hb HRq
  simp only [ov4] at c0 c1 c2 c3
  go_wp2
  exact bodyPost_ret (v := .tuple #[.slice none 0 0, .agg #[.int .i64 0, .int .i64 0, .int .i64 0, .int .i64 0], .int .i64 1]) (by simp [results, Try.results18, go_sem, c0, c1, c2, c3]) rfl ⟨rfl, HB.out⟩

set_option maxRecDepth 100000 in
set_option maxHeartbeats 1000000 in
theorem mall_len (a d : Option Addr) (L c q s n Z : Nat) (w : World) (HR : Hid (∀ w, Calls Try.prog 32 #[.slice a L c, .int .i64 n] w fun e w' => e = .returned (.bool true) ∧ w = w'))
    (HS : Hid (∀ w, Calls Try.prog 33 #[.slice a L c, .int .i64 n] w fun e w' => e = .returned (.int .i64 Z) ∧ w = w')) (hne : q ≠ Z) :
    Calls Try.prog 18 #[.slice a L c, .int .i64 n, .slice d q s] w fun e w' => e = .returned (.tuple #[.slice none 0 0, .agg #[.int .i64 0, .int .i64 0, .int .i64 0, .int .i64 0], .int .i64 1]) ∧ Below w.heap.size w w' := by
  have HRq : ∀ w, Calls Try.prog 32 #[.slice a L c, .int .i64 n] w fun e w' => e = .returned (.bool true) ∧ w' = w := fun w => (HR.out w).mono fun _ _ h => ⟨h.1, h.2.symm⟩
  have HSq : ∀ w, Calls Try.prog 33 #[.slice a L c, .int .i64 n] w fun e w' => e = .returned (.int .i64 Z) ∧ w' = w := fun w => (HS.out w).mono fun _ _ h => ⟨h.1, h.2.symm⟩
  have hb0 : Below w.heap.size w ((w.alloc (.cells #[.slice d q s] 22)).alloc (.cells #[.int .i64 0, .int .i64 0, .int .i64 0, .int .i64 0] 36)) := ((Below.refl _ _).alloc (Nat.le_refl _) _).alloc (by simp) _
  have hk0 := Blk.new (w.alloc (.cells #[.slice d q s] 22)) 36 #[.int .i64 0, .int .i64 0, .int .i64 0, .int .i64 0]
  rw [World.size_alloc] at hk0
  have hcb := ((Blk.new w 22 #[.slice d q s]).alloc (.cells #[.int .i64 0, .int .i64 0, .int .i64 0, .int .i64 0] 36)).cell 0
  have t : ((q : Int) != (Z : Int)) = true := bne_iff_ne.2 (by omega)
  have HB0 := Lib.hid hb0
  have HK0 := Lib.hid hk0
  clear hb0 hk0 hne
  go_enter Try.func18, Try.ntmps18
  go_wp2_with fail
  go_quiet (first | exact Calls.quiet_of_same (HRq _) | exact Calls.quiet_of_same (HSq _) | fail)
  have hk := ov4_blk (a := 0) (b := 0) (c := 0) (d := 0) (blk_drewN HK0.out nq)
  have hb := ov4_below (a := 0) (b := 0) (c := 0) (d := 0) (below_drewN HB0.out nq) (show w.heap.size ≤ w.heap.size + 1 by omega)
  have c0 := hk.cell 0
  have c1 := hk.cell 1
  have c2 := hk.cell 2
  have c3 := hk.cell 3
  have HB := Lib.hid hb
  clear hk hb HRq HSq
  simp only [ov4] at c0 c1 c2 c3
  go_wp2
  exact bodyPost_ret (v := .tuple #[.slice none 0 0, .agg #[.int .i64 0, .int .i64 0, .int .i64 0, .int .i64 0], .int .i64 1]) (by simp [results, Try.results18, go_sem, c0, c1, c2, c3]) rfl ⟨rfl, HB.out⟩
end Go.Proofs.Ytdcpbbfaakddaaa
