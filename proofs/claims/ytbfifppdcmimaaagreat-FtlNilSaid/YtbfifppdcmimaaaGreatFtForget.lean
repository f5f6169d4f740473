/-
  The translation: nothing was written of a page. Nothing of one statement alone stands here.
-/
import Derived.Test.YtbfifppdcmimaaaGreatFtThere
namespace Go.Proofs.YtbfifppdcmimaaaGreat
open Go.RowKit Crcm Go.ChangeShapes

set_option maxRecDepth 100000 in
theorem fforget_no {w : World} {F x2 n2 : Nat} {wr : Int → Option (Int × Int)} {T : TypeId} {cs : Array Value} (hF : Blk w F T cs) (h9 : cs[9]? = some (.map (some x2))) (hM2 : MpAt w x2 (plM wr) n2) {k : Int} (hk : 0 ≤ k ∧ k < 4294967296) (hn : wr k = none) :
    Calls Tryz.prog 43 #[.pointer (some ⟨F, 0, none⟩), .int .u32 k] w fun e w' => e = .returned (.tuple #[]) ∧ Below w.heap.size w w' := by
  have hB1 : Below w.heap.size w (w.alloc (.cells #[.int .i64 0, .int .i64 0] 47)) := (Below.refl w.heap.size w).alloc (Nat.le_refl _) _
  have c9 := ((hF.below hB1 hF.lt).cell 9).trans h9
  have q2 : (Instr.lookup 51 (.map (some x2)) (.int .u32 k) true).run Tryz.prog (w.alloc (.cells #[.int .i64 0, .int .i64 0] 47)) = .ok (.tuple #[.agg #[.int .i64 0, .int .i64 0], .bool false]) (w.alloc (.cells #[.int .i64 0, .int .i64 0] 47)) := by
    have := look_pl (hM2.below hB1) hk
    rw [hn] at this
    exact this
  have c9' := (hF.cell 9).trans h9
  have q2' : (Instr.lookup 51 (.map (some x2)) (.int .u32 k) true).run Tryz.prog w = .ok (.tuple #[.agg #[.int .i64 0, .int .i64 0], .bool false]) w := by
    have := look_pl hM2 hk
    rw [hn] at this
    exact this
  have HB := Lib.hid hB1
  clear hM2 hF h9 hB1
  go_enter Tryz.func43, Tryz.ntmps43
  go_wp2
  exact bodyPost_ret (v := .tuple #[]) (by simp [results, Tryz.results43, go_sem]) rfl ⟨rfl, HB.out⟩
end Go.Proofs.YtbfifppdcmimaaaGreat
