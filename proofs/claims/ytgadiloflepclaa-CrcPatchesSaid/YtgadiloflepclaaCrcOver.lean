/-
  What a step's columns make of a remainder, the step done twice, and a remainder that n bytes 0 were put to.
-/
import Derived.Test.YtgadiloflepclaaCrcLawB
import Derived.Laws.Rows
import Derived.Laws.Tables
import Derived.RegionTactic
import Derived.ChangeAlike
namespace Go.Proofs.Ytgadiloflepclaa
open Go.RowKit Crcm Go.ChangeShapes

/-- the columns of k digits' steps, as the array has them -/
def ca (k : Nat) : Array Value := ((List.range 32).map fun i => Value.int .u32 (N (col k i))).toArray
theorem ca_size (k : Nat) : (ca k).size = 32 := by simp [ca]
theorem ca_get (k i : Nat) (h : i < 32) : (ca k)[i]? = some (.int .u32 (N (col k i))) := by simp [ca, h]

theorem bit_V {r : Int} (h : U32 r) (i : Nat) : (V r).getLsbD i = decide (r / 2 ^ i % 2 = 1) := by
  rw [BitVec.getLsbD, toNat_V h, Nat.testBit_eq_decide_div_mod_eq]
  obtain ⟨m, rfl⟩ : ∃ m : Nat, r = m := ⟨r.toNat, by have := h.1; omega⟩
  have e : ((m : Int) / 2 ^ i % 2) = ((m / 2 ^ i % 2 : Nat) : Int) := by push_cast; rfl
  rw [e, Int.toNat_natCast]
  generalize m / 2 ^ i % 2 = q
  have e2 : ((q : Int) = 1) ↔ (q = 1) := by omega
  exact decide_eq_decide.2 e2.symm
theorem U_part {r : Int} (h : U32 r) (i : Nat) : U32 (r / 2 ^ i) := by
  obtain ⟨h0, h1⟩ := h
  have hp : (0 : Int) < 2 ^ i := Int.pow_pos (by decide)
  exact ⟨Int.ediv_nonneg h0 (by omega), Int.lt_of_le_of_lt (Int.ediv_le_self _ h0) (by omega)⟩
theorem of_step {n r : Int} (hn : U32 n) (hr : U32 r) (c : BitVec 32) (i : Nat) :
    U32 (bits .xor .u32 n (bits .and .u32 (N c) (-bits .and .u32 (r / 2 ^ i) 1 % 4294967296))) ∧
    V (bits .xor .u32 n (bits .and .u32 (N c) (-bits .and .u32 (r / 2 ^ i) 1 % 4294967296))) = V n ^^^ (if (V r).getLsbD i then c else 0#32) := by
  have hm : U32 (-bits .and .u32 (r / 2 ^ i) 1 % 4294967296) := ⟨by omega, by omega⟩
  refine ⟨U_xor hn (U_and (U32_N c) hm), ?_⟩
  rw [V_xor hn (U_and (U32_N c) hm), V_and (U32_N c) hm, V_N, and_one (U_part hr i), bit_V hr i]
  congr 1
  rcases (by omega : r / 2 ^ i % 2 = 0 ∨ r / 2 ^ i % 2 = 1) with e | e
  · rw [e]; simp [V]
  · rw [e]
    have : V (-1 % 4294967296) = BitVec.allOnes 32 := by decide
    rw [this, BitVec.and_allOnes]; rfl

/-- block g is just these cells -/
def Blk (w : World) (g : Nat) (t : TypeId) (cs : Array Value) : Prop := w.heap[g]? = some (.cells cs t (0, 0))
theorem Blk.cell {w : World} {g : Nat} {t : TypeId} {cs : Array Value} (h : Blk w g t cs) (i : Nat) : w.cell? ⟨g, i, none⟩ = cs[i]? := cell_of_row w g i cs t (0, 0) h
theorem Blk.frozen {w : World} {g : Nat} {t : TypeId} {cs : Array Value} (h : Blk w g t cs) (i : Nat) : w.frozen? ⟨g, i, none⟩ = false := frozen_of_row w g i cs t h
theorem Blk.lt {w : World} {g : Nat} {t : TypeId} {cs : Array Value} (h : Blk w g t cs) : g < w.heap.size := by
  rcases Nat.lt_or_ge g w.heap.size with hlt | hge
  · exact hlt
  · unfold Blk at h; rw [Array.getElem?_eq_none hge] at h; cases h
theorem Blk.below {w w' : World} {B g : Nat} {t : TypeId} {cs : Array Value} (h : Blk w g t cs) (hb : Below B w w') (hg : g < B) : Blk w' g t cs := (hb.block g hg).trans h

set_option maxRecDepth 100000 in
set_option maxHeartbeats 400000 in
theorem of_any (k : Nat) (r : Int) (w : World) (hr : U32 r) :
    Calls Try.prog 84 #[.agg (ca k), .int .u32 r] w fun e w' => e = .returned (.int .u32 (N (it k (V r)))) ∧ Below w.heap.size w w' := by
  have hs := ca_size k
  go_enter Try.func84, Try.ntmps84
  go_wp2
  go_loopw [5, 7] (fun t c wr => ∃ i : Nat, ∃ n : Int, i ≤ 32 ∧ U32 n ∧ c = .int .i64 i ∧ t = .int .u32 n ∧ Hid (V n = X (fun j => if (V r).getLsbD j then col k j else 0#32) i) ∧ Blk wr w.heap.size 117 (ca k) ∧ Below w.heap.size w wr) (fun _ c _ => 32 - (intOf c).toNat)
  case atStart => exact ⟨0, 0, by omega, ⟨by decide, by decide⟩, rfl, rfl, Lib.hid rfl, heap_alloc_new w _, (Below.refl _ _).alloc (Nat.le_refl _) _⟩
  case round =>
    obtain ⟨i, n, hi, hn, rfl, rfl, hv, hblk, hbel⟩ := hrel
    by_cases hlt : i < 32
    · have hc := (hblk.cell i).trans (ca_get k i hlt)
      go_wp2
      go_region
      go_wp2
      go_roundw
      case rel =>
        have hst := of_step hn hr (col k i) i
        exact ⟨i + 1, _, by omega, hst.1, by go_num, rfl, Lib.hid (by rw [hst.2, hv.out]; rfl), hblk, hbel.drew⟩
      case measure => simp [intOf]; omega
    · go_wp2
      go_ret
      have hi32 : i = 32 := by omega
      have e := hv.out
      rw [hi32, cols] at e
      exact ⟨ret_u32 (by rw [← e, N_V hn]), hbel⟩

end Go.Proofs.Ytgadiloflepclaa
