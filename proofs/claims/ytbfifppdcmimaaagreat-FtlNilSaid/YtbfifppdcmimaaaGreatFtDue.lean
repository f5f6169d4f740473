/-
  The translation: nothing is due where nothing was dropped and no block has pages of a broken epoch. Nothing of one statement alone stands here.
-/
import Derived.Test.YtbfifppdcmimaaaGreatFtThere
import Derived.Test.YtbfifppdcmimaaaGreatFtE
import Derived.Test.YtbfifppdcmimaaaGreatKI
import Derived.Test.YtbfifppdcmimaaaGreatKA
import Derived.Deep.CutBlock
import Derived.Deep.CutRange
import Derived.Deep.DeepCutAuto
import Derived.WideLaws
namespace Go.Proofs.YtbfifppdcmimaaaGreat
open Go.RowKit Crcm Go.ChangeShapes Go.Maps

theorem len_dr {w : World} {b n : Nat} {m : Int → Option Value} (h : MpAt w b m n) (ty : TypeId) : (Builtin.len_ #[52] ty #[.map (some b)]).run Tryz.prog w = .ok (.int .i64 n) w := by
  obtain ⟨es, clock, h1, h2, -⟩ := h.es
  have h3 := MapKept.run_getObj_map (P := Tryz.prog) h1
  simp [Builtin.len_, run_underlying Tryz.underlying52, h3, goInt, Result.andThen, h2]
set_option maxRecDepth 100000 in
theorem fexposes_no {w : World} {F x3 : Nat} {d : Int → Option Value} {T : TypeId} {cs : Array Value} (hF : Blk w F T cs) (h10 : cs[10]? = some (.map (some x3))) (hM : MpAt w x3 d 0) (k : Int) :
    Calls Tryz.prog 121 #[.pointer (some ⟨F, 0, none⟩), .int .i64 k] w fun e w' => e = .returned (.bool false) ∧ Below w.heap.size w w' := by
  have hB1 : Below w.heap.size w (w.alloc (.cells #[.pointer (some ⟨F, 0, none⟩)] 24)) := (Below.refl w.heap.size w).alloc (Nat.le_refl _) _
  have hq := len_dr (hM.below hB1)
  have hc := ((hF.below hB1 hF.lt).cell 10).trans h10
  have HB := Lib.hid hB1
  clear hM hB1 hF h10
  go_enter Tryz.func121, Tryz.ntmps121
  go_wp2
  go_ret
  exact ⟨rfl, HB.out⟩

set_option maxRecDepth 100000 in
set_option maxHeartbeats 1000000 in
theorem fdue_none {w : World} {F x3 x4 x5 nb : Nat} {d : Int → Option Value} {T : TypeId} {cs c4 : Array Value} (hF : Blk w F T cs) (h10 : cs[10]? = some (.map (some x3))) (h13 : cs[13]? = some (.slice (some ⟨x4, 0, none⟩) nb nb))
    (h14 : cs[14]? = some (.slice (some ⟨x5, 0, none⟩) nb nb)) (hM : MpAt w x3 d 0) (h4 : Blk w x4 4 c4) (h4c : ∀ j, j < nb → c4[j]? = some (.bool false)) (hnb : nb < 1000) (sg : Bool) :
    Calls Tryz.prog 98 #[.pointer (some ⟨F, 0, none⟩), .bool sg] w fun e w' => e = .returned (.int .i64 (-1)) ∧ Below w.heap.size w w' := by
  have c14 := (hF.cell 14).trans h14
  have HE := Lib.hid (fun W (hB : Below w.heap.size w W) (k : Int) => fexposes_no (hF.below hB hF.lt) h10 (hM.below hB) k)
  have HL := Lib.hid (fun W (hB : Below w.heap.size w W) (j : Nat) (hj : j < nb) => (And.intro (((hF.below hB hF.lt).cell 13).trans h13) (((h4.below hB h4.lt).cell j).trans (h4c j hj))))
  clear hF h10 h13 h14 hM h4 h4c
  go_enter Tryz.func98, Tryz.ntmps98
  go_wp2_with fail
  go_loopw [11] (fun i wr => ∃ k : Nat, k ≤ nb ∧ i = .int .i64 k ∧ Below w.heap.size w wr) (fun i _ => nb - (intOf i).toNat)
  case atStart => exact ⟨0, by omega, rfl, Below.refl _ _⟩
  case round =>
    obtain ⟨k, hk, rfl, hb⟩ := hrel
    clear c14
    by_cases hlt : k < nb
    · have kl : (k : Int) < (nb : Int) := by omega
      obtain ⟨a13, a4⟩ := HL.out wr hb k hlt
      have HB := Lib.hid hb
      have HEr := Lib.hid (HE.out wr hb k)
      clear hb HE HL
      cases sg
      · go_wp2
        go_roundw
        case rel => exact ⟨k + 1, by omega, by go_num, HB.out⟩
        case measure => simp [intOf]; omega
      · go_wp2_with fail
        refine HEr.out.mono ?_
        rintro e w2 ⟨rfl, hb2⟩
        have HB2 := Lib.hid (HB.out.trans (hb2.mono HB.out.size))
        clear hb2 HEr
        go_wp2
        go_roundw
        case rel => exact ⟨k + 1, by omega, by go_num, HB2.out⟩
        case measure => simp [intOf]; omega
    · have kl : ¬ (k : Int) < (nb : Int) := by omega
      have HB := Lib.hid hb
      clear hb
      go_wp2
      go_ret
      exact ⟨rfl, HB.out⟩
end Go.Proofs.YtbfifppdcmimaaaGreat
