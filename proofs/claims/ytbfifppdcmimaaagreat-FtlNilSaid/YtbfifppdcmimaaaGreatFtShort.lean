/-
  The translation: whether less blocks are free than there are to be. Nothing of one statement alone stands here.
-/
import Derived.Test.YtbfifppdcmimaaaGreatFtLeft
import Derived.Test.YtbfifppdcmimaaaGreatFtRow
import Derived.Test.YtbfifppdcmimaaaGreatFtIdx
import Derived.Test.YtbfifppdcmimaaaGreatKK
import Derived.Test.YtbfifppdcmimaaaGreatKL
import Derived.Test.YtbfifppdcmimaaaGreatKA
import Derived.Deep.CutBlock
import Derived.Deep.CutRange
import Derived.Deep.DeepCutAuto
namespace Go.Proofs.YtbfifppdcmimaaaGreat
open Go.RowKit Crcm Gcm Go.ChangeShapes

/-- the place of the open block of the row, as the translation sees it -/
def opI (c : Ch) (l : List Bk) : Int := ixI (fun y => y.st == 1) (wk c.wear l c.nb)
/-- whether less blocks are free than there are to be -/
def shB (c : Ch) (l : List Bk) (L : Int) : Bool := decide ((cnt 0 l l.length : Int) < if opI c l < 0 then L + 1 + 1 else L + 1)
set_option maxRecDepth 100000 in
set_option maxHeartbeats 2000000 in
theorem fshort_any {w : World} {X : Nat → Prop} {M : Nat} {m : Mg} {o : Own} {c : Ch} (h : MgAt w M m) (hc : ChAt w X o c) (hp : m.cp = o.p) (hn : m.l.length = c.nb) {F : Nat} (hF : w.cell? ⟨F, 1, none⟩ = some (.pointer (some ⟨M, 0, none⟩)))
    (hB : ∀ x ∈ wk c.wear m.l c.nb, Bw x) (z : Int) (hz : cnt 4 m.l m.l.length = z) (hz2 : 0 ≤ z ∧ z ≤ 1000) (hr : 0 ≤ m.r ∧ m.r ≤ 100000) (hb : 0 ≤ m.b ∧ m.b ≤ 100000) :
    Calls Tryz.prog 102 #[.pointer (some ⟨F, 0, none⟩)] w fun e w' => e = .returned (.bool (shB c m.l (m.r - (z - m.b)))) ∧ Below w.heap.size w w' := by
  have hnb : c.nb < 129 := hc.good.2.1
  have hn7 : 7 < c.nb := hc.good.1
  have HL := Lib.hid (bleft_small h z hz hz2 hr hb)
  have HR := Lib.hid (fun W (hW : Below w.heap.size w W) (hFW : W.cell? ⟨F, 1, none⟩ = some (.pointer (some ⟨M, 0, none⟩))) => frow_any (h.below hW) (hc.below hW) hp hn hFW)
  have HFr := Lib.hid (fun W (hW : Below w.heap.size w W) => bfree_any (h.below hW))
  have HC := Lib.hid (fun W (hW : Below w.heap.size w W) => ((⟨W, hW⟩ : Later w).cell hF : W.cell? ⟨F, 1, none⟩ = some (.pointer (some ⟨M, 0, none⟩))))
  have hLb : -2000000 ≤ m.r - (z - m.b) ∧ m.r - (z - m.b) ≤ 2000000 := by omega
  unfold shB opI
  generalize m.r - (z - m.b) = L at HL hLb ⊢
  have hlen : (wk c.wear m.l c.nb).length = c.nb := by rw [wk_length]; exact hn
  obtain ⟨r, hr2⟩ : ∃ r, decide ((cnt 0 m.l m.l.length : Int) < if ixI (fun y => y.st == 1) (wk c.wear m.l c.nb) < 0 then L + 1 + 1 else L + 1) = r := ⟨_, rfl⟩
  rw [hr2]
  have HS := Lib.hid hr2
  clear hr2
  have HBw := Lib.hid hB
  have HLen := Lib.hid hlen
  clear h hc hp hn hz hz2 hr hb hB hlen
  go_enter Tryz.func102, Tryz.ntmps102
  go_wp2_with fail
  refine HL.out.mono ?_
  rintro e w1 ⟨rfl, hb1⟩
  have c1 := HC.out w1 hb1
  have HRow := Lib.hid (HR.out w1 hb1 c1)
  have HB1 := Lib.hid hb1
  clear hb1 HR HL
  go_wp2_with fail
  refine HRow.out.mono ?_
  rintro e w2 ⟨a, cap', rfl, hown, hb2⟩
  obtain ⟨gg, cap2, e1, -, hO⟩ := own_of_row hown (by omega)
  injection e1 with e1 e2 e3
  subst e1
  have hrg := hO.rg HBw.out (by rw [HLen.out]; unfold maxLen; omega)
  have HOp := Lib.hid (openIn_any (wk c.wear m.l c.nb) (some ⟨gg, 0, none⟩) cap' c.nb w2 hrg HLen.out)
  have HB2 := Lib.hid (HB1.out.trans (hb2.mono HB1.out.size))
  clear hown hO hrg hb2 e2 e3 HRow HB1 c1
  go_wp2_with fail
  refine HOp.out.mono ?_
  rintro e w3 ⟨rfl, hb3⟩
  have hb3' := HB2.out.trans (hb3.mono HB2.out.size)
  have c3 := HC.out w3 hb3'
  have HF3 := Lib.hid (HFr.out w3 hb3')
  have HB3 := Lib.hid hb3'
  clear hb3 hb3' HFr HC HB2 HOp hF
  have hs := HS.out
  clear HS
  generalize ixI (fun y => y.st == 1) (wk c.wear m.l c.nb) = i at hs ⊢
  generalize cnt 0 m.l m.l.length = fr at HF3 hs ⊢
  by_cases hi : i < 0
  · have hid : decide (i < 0) = true := decide_eq_true hi
    rw [if_pos hi] at hs
    go_wp2_with fail
    refine HF3.out.mono ?_
    rintro e w4 ⟨rfl, hb4⟩
    have HE := Lib.hid (HB3.out.trans (hb4.mono HB3.out.size))
    clear hb4 HF3
    go_wp2
    go_ret
    exact ⟨rfl, HE.out⟩
  · have hid : decide (i < 0) = false := decide_eq_false hi
    rw [if_neg hi] at hs
    go_wp2_with fail
    refine HF3.out.mono ?_
    rintro e w4 ⟨rfl, hb4⟩
    have HE := Lib.hid (HB3.out.trans (hb4.mono HB3.out.size))
    clear hb4 HF3
    go_wp2
    go_ret
    exact ⟨rfl, HE.out⟩
end Go.Proofs.YtbfifppdcmimaaaGreat
